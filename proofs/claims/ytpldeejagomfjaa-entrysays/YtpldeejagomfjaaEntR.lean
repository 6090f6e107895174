
/- What the document's EntryBytes answers. -/
import Derived.Test.YtpldeejagomfjaaEntA
import Derived.Test.YtpldeejagomfjaaTopEntry
import Derived.BigRegion
namespace Go.Proofs.Ytpldeejagomfjaa
open Go.RowKit Go.WideShapes
attribute [local go_sem ↓] Go.wp_at_zero Go.wp_at_succ

theorem fault_ok (key val : ByteArray) (gone : Bool) (w : World) (h : faultB key val gone = 0) :
    Calls Try.prog 21 #[.agg #[.string key, .string val, .bool gone]] w fun e w' => e = .returned (.int .i64 0) ∧ ∃ c, w' = w.alloc (.cells c 30) := by
  refine (fault_any key val gone w).mono ?_
  rintro e w' ⟨rfl, c, rfl⟩
  exact ⟨by rw [h], c, rfl⟩
theorem fault_bad (key val : ByteArray) (gone : Bool) (w : World) (h : ¬ faultB key val gone = 0) :
    Calls Try.prog 21 #[.agg #[.string key, .string val, .bool gone]] w fun e w' => (∃ n : Int, e = .returned (.int .i64 n) ∧ n = faultB key val gone ∧ 0 < n) ∧ ∃ c, w' = w.alloc (.cells c 30) := by
  refine (fault_any key val gone w).mono ?_
  rintro e w' ⟨rfl, c, rfl⟩
  refine ⟨⟨_, rfl, rfl, ?_⟩, c, rfl⟩
  rcases faultB_cases key val gone with h1 | h1 | h1 <;> omega

theorem lt_of_cell {w : World} {b o : Nat} {v : Value} (h : w.cell? ⟨b, o, none⟩ = some v) : b < w.heap.size := by
  rcases Nat.lt_or_ge b w.heap.size with h' | h'
  · exact h'
  · simp [World.cell?, Array.getElem?_eq_none h'] at h
theorem conv_blk {w : World} {b : Nat} {l : List UInt8} {cap : Nat} (h : Blk w b (Lib.byteCells l).toArray 5) :
    (convert 125 9 (.slice (some ⟨b, 0, none⟩) l.length cap)).run Try.prog w = .ok (.string (txt l)) w :=
  run_convert_bytes_back (P := Try.prog) w 125 9 5 ⟨b, 0, none⟩ cap l Try.underlying125 Try.underlying5 Try.underlying9 (fun j hj => by
    rw [add_plain, Nat.zero_add, h.cell]; simp [Lib.byteCells, hj])

theorem three_cells (g : UInt8) (a b : Nat) (ha : a < 256) (hb : b < 256) : (Lib.byteCells [g, UInt8.ofNat a, UInt8.ofNat b]).toArray = #[.int .u8 (g.toNat : Int), .int .u8 (a : Int), .int .u8 (b : Int)] := by
  have h1 : a % 256 = a := by omega
  have h2 : b % 256 = b := by omega
  simp [Lib.byteCells, h1, h2]
/-- Behind k rounds. -/
structure RGood (es : List Ent) (k : Nat) (t : ByteArray) : Prop where
  ok : faultsE (es.take k) = 0
  is : t = txt (encTo es k)
  small : t.size ≤ 1 + 27 * k
theorem RGood.stop {es : List Ent} {k : Nat} {t : ByteArray} {e : Ent} (h : RGood es k t) (he : es[k]? = some e) (hf : ¬ faultE e = 0) : bytesT es = ([], faultE e) := by
  have h1 : faultsE (es.take (k + 1)) = faultE e := by rw [take_snoc he, faultsE_snoc _ _ h.ok]
  have h2 := faultsE_pre (es.take (k + 1)) (es.drop (k + 1)) (by rw [h1]; exact hf)
  rw [List.take_append_drop] at h2
  unfold bytesT
  rw [if_pos (by rw [h2, h1]; exact hf), h2, h1]
theorem RGood.step {es : List Ent} {k : Nat} {t : ByteArray} {key val : ByteArray} {gone : Bool} (h : RGood es k t) (he : es[k]? = some ⟨key, val, gone⟩) (hf : faultB key val gone = 0) (x : ByteArray)
    (hx : x.data.toList = [if gone then 1 else 0, UInt8.ofNat key.size, UInt8.ofNat val.size]) : RGood es (k + 1) (t ++ x ++ key ++ val) := by
  have hf' : faultE ⟨key, val, gone⟩ = 0 := hf
  have hkv := fault_zero hf'
  dsimp only at hkv
  refine ⟨?_, ?_, ?_⟩
  · rw [take_snoc he, faultsE_snoc _ _ h.ok, hf']
  · apply ba_ext
    rw [h.is, encTo_step he]
    simp [txt, encE, hx]
  · have hs := h.small
    have hxs : x.size = 3 := by rw [Lib.size_eq, hx]; rfl
    simp; omega

set_option maxRecDepth 20000 in
set_option maxHeartbeats 2000000 in
theorem refBytes_any (ao : Option Addr) (cap : Nat) (es : List Ent) (w : World) (hl : es.length ≤ 200) (hes : EntsAt w ao es) :
    Calls Try.prog 23 #[.slice ao es.length cap] w fun e w' => e = .returned (.tuple #[.string (txt (bytesT es).1), .int .i64 (bytesT es).2]) ∧ Ext w w' := by
  have hcv : (convert 125 9 (.slice (some ⟨w.heap.size, 0, none⟩) 1 1)).run Try.prog (w.alloc (.cells #[.int .u8 ((es.length : Int) % 256)] 5)) = .ok (.string (txt [UInt8.ofNat es.length])) (w.alloc (.cells #[.int .u8 ((es.length : Int) % 256)] 5)) := by
    have e : (Lib.byteCells [UInt8.ofNat es.length]).toArray = #[.int .u8 ((es.length : Int) % 256)] := by simp [Lib.byteCells]
    exact conv_blk (l := [UInt8.ofNat es.length]) (by rw [e]; exact Blk.new _ _ _)
  have HG : RGood es 0 (txt [UInt8.ofNat es.length]) := ⟨by simp [faultsE], by simp [encTo], by rw [Lib.size_eq]; simp [txt]⟩
  go_enter Try.func23, Try.ntmps23
  go_wp2_with fail
  clear hcv
  go_loopw [4, 5] (fun t i wr => ∃ (k : Nat) (T : ByteArray), k ≤ es.length ∧ i = .int .i64 k ∧ t = .string T ∧ RGood es k T ∧ Ext w wr) (fun _ i _ => es.length - (intOf i).toNat)
  case atStart => exact ⟨0, _, Nat.zero_le _, rfl, rfl, HG, (Ext.refl _).alloc _⟩
  case round =>
    clear HG
    obtain ⟨k, T, hk, rfl, rfl, hg, hx⟩ := hrel
    by_cases hlt : k < es.length
    · obtain ⟨b, off, key, val, gone, rfl, he, h1, h2, h3⟩ := hes.get hlt
      have g1 := hx.cell h1
      have g2 := hx.cell h2
      have g3 := hx.cell h3
      have hbl := lt_of_cell g1
      have hbn : ¬ b = wr.heap.size := by omega
      have hsm := hg.small
      have HE : Hid (es[k]? = some (⟨key, val, gone⟩ : Ent)) := he
      clear h1 h2 h3 he hes
      by_cases hf : faultB key val gone = 0
      · have hkv := fault_zero (e := ⟨key, val, gone⟩) hf
        obtain ⟨hk8, hv16⟩ := hkv
        dsimp only at hk8 hv16
        have HF : Hid (faultB key val gone = 0) := hf
        clear hf
        cases gone
        · go_wp2_with (go_at_call 21; refine (fault_ok key val _ _ HF.out).mono ?_; rintro e w' ⟨rfl, cc, rfl⟩)
          have hcv2 : (convert 125 9 (.slice (some ⟨wr.heap.size + 1, 0, none⟩) 3 3)).run Try.prog (((wr.alloc (.cells cc 30)).alloc (.cells #[.int .u8 0, .int .u8 (key.size : Int), .int .u8 (val.size : Int)] 5)).drew) = .ok (.string (txt [0, UInt8.ofNat key.size, UInt8.ofNat val.size])) (((wr.alloc (.cells cc 30)).alloc (.cells #[.int .u8 0, .int .u8 (key.size : Int), .int .u8 (val.size : Int)] 5)).drew) :=
            conv_blk (l := [0, UInt8.ofNat key.size, UInt8.ofNat val.size]) (by
              rw [three_cells 0 key.size val.size (by omega) (by omega)]
              exact Blk.drew (Blk.new' (wr.alloc (.cells cc 30)) _ _ (n := wr.heap.size + 1) (by simp)))
          have hg' := hg.step HE.out HF.out (txt [0, UInt8.ofNat key.size, UInt8.ofNat val.size]) (by simp [txt])
          have ht3 : (txt [0, UInt8.ofNat key.size, UInt8.ofNat val.size]).size = 3 := by rw [Lib.size_eq]; simp [txt]
          go_big_region
          all_goals go_wp2
          all_goals go_roundw
          case rel => exact ⟨k + 1, _, by omega, by go_num, rfl, hg', by repeat (first | assumption | refine Ext.drew ?_ | refine Ext.alloc ?_ _)⟩
          case measure => simp [intOf]; omega
        · go_wp2_with (go_at_call 21; refine (fault_ok key val _ _ HF.out).mono ?_; rintro e w' ⟨rfl, cc, rfl⟩)
          have hcv2 : (convert 125 9 (.slice (some ⟨wr.heap.size + 1, 0, none⟩) 3 3)).run Try.prog (((wr.alloc (.cells cc 30)).alloc (.cells #[.int .u8 1, .int .u8 (key.size : Int), .int .u8 (val.size : Int)] 5)).drew) = .ok (.string (txt [1, UInt8.ofNat key.size, UInt8.ofNat val.size])) (((wr.alloc (.cells cc 30)).alloc (.cells #[.int .u8 1, .int .u8 (key.size : Int), .int .u8 (val.size : Int)] 5)).drew) :=
            conv_blk (l := [1, UInt8.ofNat key.size, UInt8.ofNat val.size]) (by
              rw [three_cells 1 key.size val.size (by omega) (by omega)]
              exact Blk.drew (Blk.new' (wr.alloc (.cells cc 30)) _ _ (n := wr.heap.size + 1) (by simp)))
          have hg' := hg.step HE.out HF.out (txt [1, UInt8.ofNat key.size, UInt8.ofNat val.size]) (by simp [txt])
          have ht3 : (txt [1, UInt8.ofNat key.size, UInt8.ofNat val.size]).size = 3 := by rw [Lib.size_eq]; simp [txt]
          go_big_region
          all_goals go_wp2
          all_goals go_roundw
          case rel => exact ⟨k + 1, _, by omega, by go_num, rfl, hg', by repeat (first | assumption | refine Ext.drew ?_ | refine Ext.alloc ?_ _)⟩
          case measure => simp [intOf]; omega
      · have HF : Hid (¬ faultB key val gone = 0) := hf
        have HS : Hid (bytesT es = ([], faultB key val gone)) := hg.stop HE.out hf
        clear hf
        go_wp2_with (go_at_call 21; refine (fault_bad key val gone _ HF.out).mono ?_; rintro e w' ⟨⟨nn, rfl, hnn, hpos⟩, cc, rfl⟩; have HN : Hid (nn = faultB key val gone) := hnn; clear hnn)
        go_ret2
        refine ⟨?_, hx.alloc _⟩
        rw [HS.out, HN.out]; rfl
    · have hkn : k = es.length := by omega
      subst hkn
      have hok : faultsE es = 0 := by have := hg.ok; rwa [List.take_length] at this
      have hT : T = txt (encT es) := by
        have := hg.is; unfold encTo at this; rw [List.take_length] at this; exact this
      have hTs : T.size = (encT es).length := by rw [hT, Lib.size_eq]; simp [txt]
      clear hes
      by_cases h64 : T.size ≤ 64
      · have HB : Hid (bytesT es = (encT es, 0)) := by unfold bytesT Hid; rw [if_neg (by simp [hok]), if_neg (by omega)]
        have HT : Hid (T = txt (encT es)) := hT
        clear hok hT hTs hg
        go_wp2
        go_ret2
        refine ⟨?_, hx⟩
        rw [HB.out, HT.out]; rfl
      · have HB : Hid (bytesT es = ([], 2)) := by unfold bytesT Hid; rw [if_neg (by simp [hok]), if_pos (by omega)]
        clear hok hT hTs hg
        go_wp2
        go_ret2
        refine ⟨?_, hx⟩
        rw [HB.out]; rfl

end Go.Proofs.Ytpldeejagomfjaa
