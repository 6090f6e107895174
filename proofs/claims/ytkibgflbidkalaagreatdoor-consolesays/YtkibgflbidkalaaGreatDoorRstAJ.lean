/- TopEntry EntR RstA. -/
import Derived.Test.YtkibgflbidkalaaGreatDoorEntSJ
import Derived.Test.YtkibgflbidkalaaGreatDoorEntAJ
import Derived.BigRegion
import Derived.Test.YtkibgflbidkalaaGreatDoorLawAJ
import Derived.Test.YtkibgflbidkalaaGreatDoorLstPJ
import Derived.Test.YtkibgflbidkalaaGreatDoorLstKJ

/- The walk of TopEntry. -/
namespace Go.Proofs.YtkibgflbidkalaaGreatDoor
open Go.RowKit Go.WideShapes

end Go.Proofs.YtkibgflbidkalaaGreatDoor

/- What the document's EntryBytes answers. -/
namespace Go.Proofs.YtkibgflbidkalaaGreatDoor
open Go.RowKit Go.WideShapes
attribute [local go_sem ↓] Go.wp_at_zero Go.wp_at_succ

theorem fault_ok (key val : ByteArray) (gone : Bool) (w : World) (h : faultB key val gone = 0) :
    Calls Tryz.prog 68 #[.agg #[.string key, .string val, .bool gone]] w fun e w' => e = .returned (.int .i64 0) ∧ ∃ c, w' = w.alloc (.cells c 56) := by
  refine (fault_any key val gone w).mono ?_
  rintro e w' ⟨rfl, c, rfl⟩
  exact ⟨by rw [h], c, rfl⟩
theorem fault_bad (key val : ByteArray) (gone : Bool) (w : World) (h : ¬ faultB key val gone = 0) :
    Calls Tryz.prog 68 #[.agg #[.string key, .string val, .bool gone]] w fun e w' => (∃ n : Int, e = .returned (.int .i64 n) ∧ n = faultB key val gone ∧ 0 < n) ∧ ∃ c, w' = w.alloc (.cells c 56) := by
  refine (fault_any key val gone w).mono ?_
  rintro e w' ⟨rfl, c, rfl⟩
  refine ⟨⟨_, rfl, rfl, ?_⟩, c, rfl⟩
  rcases faultB_cases key val gone with h1 | h1 | h1 <;> omega

theorem lt_of_cell {w : World} {b o : Nat} {v : Value} (h : w.cell? ⟨b, o, none⟩ = some v) : b < w.heap.size := by
  rcases Nat.lt_or_ge b w.heap.size with h' | h'
  · exact h'
  · simp [World.cell?, Array.getElem?_eq_none h'] at h
theorem conv_blk {w : World} {b : Nat} {l : List UInt8} {cap : Nat} (h : Blk w b (Lib.byteCells l).toArray 5) :
    (convert 118 9 (.slice (some ⟨b, 0, none⟩) l.length cap)).run Tryz.prog w = .ok (.string (txt l)) w :=
  run_convert_bytes_back (P := Tryz.prog) w 118 9 5 ⟨b, 0, none⟩ cap l Tryz.underlying118 Tryz.underlying5 Tryz.underlying9 (fun j hj => by
    rw [add_plain, Nat.zero_add, h.cell]; simp [Lib.byteCells, hj])

theorem three_cells (g : UInt8) (a b : Nat) (ha : a < 256) (hb : b < 256) : (Lib.byteCells [g, UInt8.ofNat a, UInt8.ofNat b]).toArray = #[.int .u8 (g.toNat : Int), .int .u8 (a : Int), .int .u8 (b : Int)] := by
  have h1 : a % 256 = a := by omega
  have h2 : b % 256 = b := by omega
  simp [Lib.byteCells, h1, h2]
structure RGood (es : List Ent) (k : Nat) (t : ByteArray) : Prop where
  ok : faultsE (es.take k) = 0
  is : t = txt (encTo es k)
  small : t.size ≤ 1 + 27 * k
theorem RGood.stop {es : List Ent} {k : Nat} {t : ByteArray} {e : Ent} (h : RGood es k t) (he : es[k]? = some e) (hf : ¬ faultE e = 0) : bytesT es = ([], faultE e) := by
  have h1 : faultsE (es.take (k + 1)) = faultE e := by rw [take_snoc he, faultsE_snoc _ _ h.ok]
  have h2 := faultsE_pre (es.take (k + 1)) (es.drop (k + 1)) (by rw [h1]; exact hf)
  rw [List.take_append_drop] at h2
  unfold bytesT
  rw [if_pos (by rw [h2, h1]; exact hf), h2, h1]
theorem RGood.step {es : List Ent} {k : Nat} {t : ByteArray} {key val : ByteArray} {gone : Bool} (h : RGood es k t) (he : es[k]? = some ⟨key, val, gone⟩) (hf : faultB key val gone = 0) (x : ByteArray)
    (hx : x.data.toList = [if gone then 1 else 0, UInt8.ofNat key.size, UInt8.ofNat val.size]) : RGood es (k + 1) (t ++ x ++ key ++ val) := by
  have hf' : faultE ⟨key, val, gone⟩ = 0 := hf
  have hkv := fault_zero hf'
  dsimp only at hkv
  refine ⟨?_, ?_, ?_⟩
  · rw [take_snoc he, faultsE_snoc _ _ h.ok, hf']
  · apply ba_ext
    rw [h.is, encTo_step he]
    simp [txt, encE, hx]
  · have hs := h.small
    have hxs : x.size = 3 := by rw [Lib.size_eq, hx]; rfl
    simp; omega

set_option maxRecDepth 20000 in
set_option maxHeartbeats 2000000 in
theorem refBytes_any (ao : Option Addr) (cap : Nat) (es : List Ent) (w : World) (hl : es.length ≤ 200) (hes : EntsAt w ao es) :
    Calls Tryz.prog 70 #[.slice ao es.length cap] w fun e w' => e = .returned (.tuple #[.string (txt (bytesT es).1), .int .i64 (bytesT es).2]) ∧ Ext w w' := by
  have hcv : (convert 118 9 (.slice (some ⟨w.heap.size, 0, none⟩) 1 1)).run Tryz.prog (w.alloc (.cells #[.int .u8 ((es.length : Int) % 256)] 5)) = .ok (.string (txt [UInt8.ofNat es.length])) (w.alloc (.cells #[.int .u8 ((es.length : Int) % 256)] 5)) := by
    have e : (Lib.byteCells [UInt8.ofNat es.length]).toArray = #[.int .u8 ((es.length : Int) % 256)] := by simp [Lib.byteCells]
    exact conv_blk (l := [UInt8.ofNat es.length]) (by rw [e]; exact Blk.new _ _ _)
  have HG : RGood es 0 (txt [UInt8.ofNat es.length]) := ⟨by simp [faultsE], by simp [encTo], by rw [Lib.size_eq]; simp [txt]⟩
  go_enter Tryz.func70, Tryz.ntmps70
  go_wp2_with fail
  clear hcv
  go_loopw [4, 5] (fun t i wr => ∃ (k : Nat) (T : ByteArray), k ≤ es.length ∧ i = .int .i64 k ∧ t = .string T ∧ RGood es k T ∧ Ext w wr) (fun _ i _ => es.length - (intOf i).toNat)
  case atStart => exact ⟨0, _, Nat.zero_le _, rfl, rfl, HG, (Ext.refl _).alloc _⟩
  case round =>
    clear HG
    obtain ⟨k, T, hk, rfl, rfl, hg, hx⟩ := hrel
    by_cases hlt : k < es.length
    · obtain ⟨b, off, key, val, gone, rfl, he, h1, h2, h3⟩ := hes.get hlt
      have g1 := hx.cell h1
      have g2 := hx.cell h2
      have g3 := hx.cell h3
      have hbl := lt_of_cell g1
      have hbn : ¬ b = wr.heap.size := by omega
      have hsm := hg.small
      have HE : Hid (es[k]? = some (⟨key, val, gone⟩ : Ent)) := he
      clear h1 h2 h3 he hes
      by_cases hf : faultB key val gone = 0
      · have hkv := fault_zero (e := ⟨key, val, gone⟩) hf
        obtain ⟨hk8, hv16⟩ := hkv
        dsimp only at hk8 hv16
        have HF : Hid (faultB key val gone = 0) := hf
        clear hf
        cases gone
        · go_wp2_with (go_at_call 68; refine (fault_ok key val _ _ HF.out).mono ?_; rintro e w' ⟨rfl, cc, rfl⟩)
          have hcv2 : (convert 118 9 (.slice (some ⟨wr.heap.size + 1, 0, none⟩) 3 3)).run Tryz.prog (((wr.alloc (.cells cc 56)).alloc (.cells #[.int .u8 0, .int .u8 (key.size : Int), .int .u8 (val.size : Int)] 5)).drew) = .ok (.string (txt [0, UInt8.ofNat key.size, UInt8.ofNat val.size])) (((wr.alloc (.cells cc 56)).alloc (.cells #[.int .u8 0, .int .u8 (key.size : Int), .int .u8 (val.size : Int)] 5)).drew) :=
            conv_blk (l := [0, UInt8.ofNat key.size, UInt8.ofNat val.size]) (by
              rw [three_cells 0 key.size val.size (by omega) (by omega)]
              exact Blk.drew (Blk.new' (wr.alloc (.cells cc 56)) _ _ (n := wr.heap.size + 1) (by simp)))
          have hg' := hg.step HE.out HF.out (txt [0, UInt8.ofNat key.size, UInt8.ofNat val.size]) (by simp [txt])
          have ht3 : (txt [0, UInt8.ofNat key.size, UInt8.ofNat val.size]).size = 3 := by rw [Lib.size_eq]; simp [txt]
          go_big_region
          all_goals go_wp2
          all_goals go_roundw
          case rel => exact ⟨k + 1, _, by omega, by go_num, rfl, hg', by repeat (first | assumption | refine Ext.drew ?_ | refine Ext.alloc ?_ _)⟩
          case measure => simp [intOf]; omega
        · go_wp2_with (go_at_call 68; refine (fault_ok key val _ _ HF.out).mono ?_; rintro e w' ⟨rfl, cc, rfl⟩)
          have hcv2 : (convert 118 9 (.slice (some ⟨wr.heap.size + 1, 0, none⟩) 3 3)).run Tryz.prog (((wr.alloc (.cells cc 56)).alloc (.cells #[.int .u8 1, .int .u8 (key.size : Int), .int .u8 (val.size : Int)] 5)).drew) = .ok (.string (txt [1, UInt8.ofNat key.size, UInt8.ofNat val.size])) (((wr.alloc (.cells cc 56)).alloc (.cells #[.int .u8 1, .int .u8 (key.size : Int), .int .u8 (val.size : Int)] 5)).drew) :=
            conv_blk (l := [1, UInt8.ofNat key.size, UInt8.ofNat val.size]) (by
              rw [three_cells 1 key.size val.size (by omega) (by omega)]
              exact Blk.drew (Blk.new' (wr.alloc (.cells cc 56)) _ _ (n := wr.heap.size + 1) (by simp)))
          have hg' := hg.step HE.out HF.out (txt [1, UInt8.ofNat key.size, UInt8.ofNat val.size]) (by simp [txt])
          have ht3 : (txt [1, UInt8.ofNat key.size, UInt8.ofNat val.size]).size = 3 := by rw [Lib.size_eq]; simp [txt]
          go_big_region
          all_goals go_wp2
          all_goals go_roundw
          case rel => exact ⟨k + 1, _, by omega, by go_num, rfl, hg', by repeat (first | assumption | refine Ext.drew ?_ | refine Ext.alloc ?_ _)⟩
          case measure => simp [intOf]; omega
      · have HF : Hid (¬ faultB key val gone = 0) := hf
        have HS : Hid (bytesT es = ([], faultB key val gone)) := hg.stop HE.out hf
        clear hf
        go_wp2_with (go_at_call 68; refine (fault_bad key val gone _ HF.out).mono ?_; rintro e w' ⟨⟨nn, rfl, hnn, hpos⟩, cc, rfl⟩; have HN : Hid (nn = faultB key val gone) := hnn; clear hnn)
        go_ret2
        refine ⟨?_, hx.alloc _⟩
        rw [HS.out, HN.out]; rfl
    · have hkn : k = es.length := by omega
      subst hkn
      have hok : faultsE es = 0 := by have := hg.ok; rwa [List.take_length] at this
      have hT : T = txt (encT es) := by
        have := hg.is; unfold encTo at this; rw [List.take_length] at this; exact this
      have hTs : T.size = (encT es).length := by rw [hT, Lib.size_eq]; simp [txt]
      clear hes
      by_cases h64 : T.size ≤ 64
      · have HB : Hid (bytesT es = (encT es, 0)) := by unfold bytesT Hid; rw [if_neg (by simp [hok]), if_neg (by omega)]
        have HT : Hid (T = txt (encT es)) := hT
        clear hok hT hTs hg
        go_wp2
        go_ret2
        refine ⟨?_, hx⟩
        rw [HB.out, HT.out]; rfl
      · have HB : Hid (bytesT es = ([], 2)) := by unfold bytesT Hid; rw [if_neg (by simp [hok]), if_pos (by omega)]
        clear hok hT hTs hg
        go_wp2
        go_ret2
        refine ⟨?_, hx⟩
        rw [HB.out]; rfl

end Go.Proofs.YtkibgflbidkalaaGreatDoor

/- The document's store: WriteFault, After, Write. -/
namespace Go.Proofs.YtkibgflbidkalaaGreatDoor
open Go.RowKit Go.WideShapes

structure RefSt (w : World) (S : List Nat) (rb : Nat) (R : List Ent) : Prop where
  ex : ∃ ro rc, Blk w rb #[.slice ro R.length rc] 33 ∧ Aside2 w (rb :: S) ro R
  no : rb ∉ S
  gl : ¬ 1 = rb
theorem RefSt.ext {w w' : World} {S : List Nat} {rb : Nat} {R : List Ent} (h : RefSt w S rb R) (hx : Ext w w') : RefSt w' S rb R := by
  obtain ⟨ro, rc, h1, h2⟩ := h.ex
  exact ⟨⟨ro, rc, h1.ext hx, h2.ext hx⟩, h.no, h.gl⟩
theorem RefSt.kp {w w' : World} {S S' : List Nat} {rb : Nat} {R : List Ent} (h : RefSt w S rb R) (hK : Kp w w' S) (hS : ∀ b ∈ S', b ∈ S ∨ w.heap.size ≤ b) : RefSt w' S' rb R := by
  obtain ⟨ro, rc, h1, h2⟩ := h.ex
  have hlt := h1.lt
  refine ⟨⟨ro, rc, hK.Blk h1 h.no, ?_⟩, fun hm => ?_, h.gl⟩
  · refine h2.kp (hK.mono fun x hx => List.mem_cons_of_mem _ hx) (fun b hb => ?_)
    rcases List.mem_cons.1 hb with rfl | hb
    · exact .inl (by simp)
    · rcases hS b hb with h' | h'
      · exact .inl (List.mem_cons_of_mem _ h')
      · exact .inr h'
  · rcases hS _ hm with h' | h'
    · exact h.no h'
    · omega
theorem RefSt.new (w : World) (S : List Nat) (hS : ∀ b ∈ S, b < w.heap.size) (hg : 1 < w.heap.size) (ro : Option Addr) (rc : Nat) (R : List Ent) (hA : Aside2 w S ro R) : RefSt (w.alloc (.cells #[.slice ro R.length rc] 33)) S w.heap.size R := by
  have hA' := hA.ext ((Ext.refl w).alloc (.cells #[.slice ro R.length rc] 33))
  refine ⟨⟨ro, rc, Blk.new _ _ _, hA'.at_, hA'.lt, fun p e hm => ?_⟩, fun hm => ?_, by omega⟩
  · rcases List.mem_cons.1 hm with h | h
    · have := hA.lt p e; omega
    · exact hA.no p e h
  · have := hS _ hm; omega
theorem puts_len2 : ∀ (es l : List Ent), (putsE l es).length ≤ l.length + es.length
  | [], l => by simp [putsE]
  | e :: es, l => by
    have h := puts_len2 es (putE l e)
    have h1 : (putE l e).length ≤ l.length + 1 := by
      clear h
      induction l with
      | nil => simp [putE]
      | cons x r ih =>
        unfold putE
        split
        · simp; exact ih
        · split
          · simp
          · simp
    show (putsE (putE l e) es).length ≤ _
    simp; omega
theorem puts_step {l R : List Ent} {k : Nat} {e : Ent} (he : l[k]? = some e) : putsE R (l.take (k + 1)) = putE (putsE R (l.take k)) e := by
  unfold putsE
  rw [List.take_add_one, he, List.foldl_append]; rfl
set_option maxRecDepth 20000 in
set_option maxHeartbeats 2000000 in
theorem rAfter_any (w : World) (S : List Nat) (rb : Nat) (R : List Ent) (ao : Option Addr) (cap : Nat) (l : List Ent) (h : RefSt w S rb R) (hR : Ris R) (hRl : R.length ≤ 500) (hll : l.length ≤ 100) (hl : EntsAt w ao l) :
    Calls Tryz.prog 38 #[.pointer (some ⟨rb, 0, none⟩), .slice ao l.length cap] w fun e w' => ∃ v, e = .returned v ∧ Lst w w' v (afterE R l) := by
  obtain ⟨ro, rc, h1, h2⟩ := h.ex
  have k0 := h1.cell 0
  simp at k0
  have HA : Hid (EntsAt w ro R) := h2.at_
  have HL : Hid (EntsAt w ao l) := hl
  have HP : Hid (∀ W wo wc (k : Nat) e, k < l.length → l[k]? = some e → EntsAt W wo (putsE R (l.take k)) → Calls Tryz.prog 71 #[.slice wo (putsE R (l.take k)).length wc, .agg #[.string e.key, .string e.val, .bool e.gone]] W fun r w' => ∃ bo c, r = .returned (.slice bo (putsE R (l.take (k + 1))).length c) ∧ EntsAt w' bo (putsE R (l.take (k + 1))) ∧ Ext W w') := fun W wo wc k e hk he hE => by
    have hlen := puts_len2 (l.take k) R
    have : (l.take k).length ≤ k := by simp; omega
    refine (refPut_any wo wc (putsE R (l.take k)) e.key e.val e.gone W (by omega) (hR.puts _) hE).mono fun r w' hh => ?_
    obtain ⟨v, rfl, hv⟩ := hh
    rw [puts_step he]
    obtain ⟨bo, c, rfl, hb⟩ := hv.at
    exact ⟨bo, c, rfl, hb, hv.ext⟩
  have HV : Hid (∀ W wo wc, Ext w W → EntsAt W wo (putsE R l) → Calls Tryz.prog 72 #[.slice wo (putsE R l).length wc] W fun r w' => ∃ v, r = .returned v ∧ Lst w w' v (afterE R l)) := fun W wo wc hx hE => by
    have hlen := puts_len2 l R
    refine (refLive_any wo wc (putsE R l) W (by omega) hE).mono fun r w' hh => ?_
    obtain ⟨v, rfl, hv⟩ := hh
    exact ⟨v, rfl, hv.back hx⟩
  have HT0 : Hid (putsE R (l.take 0) = R) := rfl
  have HTE : Hid (∀ k, l.length ≤ k → putsE R (l.take k) = putsE R l) := fun k hk => by rw [List.take_of_length_le hk]
  generalize afterE R l = A at *
  clear h h1 h2 hl hR
  go_enter Tryz.func38, Tryz.ntmps38
  go_wp2_with fail
  go_loopw [5, 6] (fun r i wr => ∃ (k : Nat) (wo : Option Addr) (wc : Nat), k ≤ l.length ∧ i = .int .i64 k ∧ r = .slice wo (putsE R (l.take k)).length wc ∧ EntsAt wr wo (putsE R (l.take k)) ∧ Ext w wr) (fun _ i _ => l.length - (intOf i).toNat)
  case atStart => exact ⟨0, ro, rc, Nat.zero_le _, rfl, by rw [HT0.out], by rw [HT0.out]; exact HA.out, Ext.refl _⟩
  case round =>
    obtain ⟨k, wo, wc, hk, rfl, rfl, hE, hx⟩ := hrel
    by_cases hlt : k < l.length
    · obtain ⟨eb, eo, ek, ev, eg, rfl, he, g1, g2, g3⟩ := (HL.out.ext2 hx).get hlt
      have HC := HP.out wr wo wc k _ hlt he hE
      have HC' : Hid (Calls Tryz.prog 71 #[.slice wo (putsE R (l.take k)).length wc, .agg #[.string ek, .string ev, .bool eg]] wr fun r w' => ∃ bo c, r = .returned (.slice bo (putsE R (l.take (k + 1))).length c) ∧ EntsAt w' bo (putsE R (l.take (k + 1))) ∧ Ext wr w') := HC
      clear HC HP HV hE he
      generalize putsE R (l.take k) = z at *
      go_wp2_with (go_at_call 71; refine HC'.out.mono ?_; rintro r w2 ⟨bo, c, rfl, hb, hx2⟩)
      go_roundw
      case rel => exact ⟨k + 1, bo, c, by omega, by go_num, rfl, hb, hx.trans hx2⟩
      case measure => simp [intOf]; omega
    · rw [HTE.out k (by omega)] at hE ⊢
      have HC : Hid (Calls Tryz.prog 72 #[.slice wo (putsE R l).length wc] wr fun r w' => ∃ v, r = .returned v ∧ Lst w w' v A) := HV.out wr wo wc hx hE
      clear HP HV hE
      go_wp2_with (go_at_call 72; refine HC.out.mono ?_; rintro r w2 ⟨v, rfl, hv⟩)
      go_ret
      exact ⟨_, rfl, hv⟩
theorem bytesT_pos (l : List Ent) (h : ¬ (bytesT l).2 = 0) : 0 < (bytesT l).2 := by
  have hf : ∀ e : Ent, 0 ≤ faultE e := fun e => by
    unfold faultE faultB
    split
    · decide
    · split
      · decide
      · decide
  have hfs : ∀ l : List Ent, 0 ≤ faultsE l := by
    intro l
    induction l with
    | nil => exact Int.le_refl _
    | cons e r ih => unfold faultsE; split; exact ih; exact hf e
  have : 0 ≤ (bytesT l).2 := by
    unfold bytesT
    split
    · exact hfs l
    · split
      · show (0 : Int) ≤ 2; decide
      · show (0 : Int) ≤ 0; decide
  omega
set_option maxRecDepth 20000 in
set_option maxHeartbeats 2000000 in
theorem rFault_any (w : World) (S : List Nat) (rb : Nat) (R : List Ent) (ao : Option Addr) (cap : Nat) (l : List Ent) (h : RefSt w S rb R) (hR : Ris R) (hRl : R.length ≤ 500) (hll : l.length ≤ 9223372036854775807) (hl : EntsAt w ao l) :
    Calls Tryz.prog 37 #[.pointer (some ⟨rb, 0, none⟩), .slice ao l.length cap] w fun e w' => e = .returned (.int .i64 (writeF R l)) ∧ Ext w w' := by
  by_cases h1 : l.length = 0 ∨ 4 < l.length
  · have hw : writeF R l = 2 := by unfold writeF; rw [if_pos h1]
    rw [hw]
    rcases h1 with h1 | h1
    · rw [h1]
      clear h hl
      go_enter Tryz.func37, Tryz.ntmps37
      go_wp2
      go_ret
      exact ⟨rfl, Ext.refl _⟩
    · have h2 : ¬ (l.length : Int) < 1 := by omega
      have h3 : (4 : Int) < (l.length : Int) := by omega
      clear h hl
      go_enter Tryz.func37, Tryz.ntmps37
      go_wp2
      go_ret
      exact ⟨rfl, Ext.refl _⟩
  · have h2 : ¬ (l.length : Int) < 1 := by omega
    have h3 : ¬ (4 : Int) < (l.length : Int) := by omega
    have HB : Hid (Calls Tryz.prog 70 #[.slice ao l.length cap] w fun e w' => e = .returned (.tuple #[.string (txt (bytesT l).1), .int .i64 (bytesT l).2]) ∧ Ext w w') := refBytes_any ao cap l w (by omega) hl
    by_cases hb : (bytesT l).2 = 0
    · have HA : Hid (∀ W, Ext w W → Calls Tryz.prog 38 #[.pointer (some ⟨rb, 0, none⟩), .slice ao l.length cap] W fun e w' => ∃ bo c, e = .returned (.slice bo (afterE R l).length c) ∧ Ext W w') := fun W hx => (rAfter_any W S rb R ao cap l (h.ext hx) hR hRl (by omega) (hl.ext2 hx)).mono fun _ _ hh => by
        obtain ⟨v, rfl, hv⟩ := hh
        obtain ⟨bo, c, rfl, _⟩ := hv.at
        exact ⟨bo, c, rfl, hv.ext⟩
      have hw : writeF R l = if 40 < (afterE R l).length then 8 else 0 := by unfold writeF; rw [if_neg h1, if_neg (by simpa using hb)]
      rw [hw]
      rw [hb] at HB
      clear hw hb h hl h1
      generalize (afterE R l).length = q at *
      generalize (bytesT l).1 = t at *
      by_cases hq : (40 : Int) < (q : Int)
      · rw [if_pos (by omega)]
        go_enter Tryz.func37, Tryz.ntmps37
        go_wp2_with (first
          | (go_at_call 70; refine HB.out.mono ?_; rintro e w1 ⟨rfl, hx1⟩)
          | (go_at_call 38; refine (HA.out _ hx1).mono ?_; rintro e w2 ⟨bo, c, rfl, hx2⟩))
        go_ret
        exact ⟨rfl, hx1.trans hx2⟩
      · rw [if_neg (by omega)]
        go_enter Tryz.func37, Tryz.ntmps37
        go_wp2_with (first
          | (go_at_call 70; refine HB.out.mono ?_; rintro e w1 ⟨rfl, hx1⟩)
          | (go_at_call 38; refine (HA.out _ hx1).mono ?_; rintro e w2 ⟨bo, c, rfl, hx2⟩))
        go_ret
        exact ⟨rfl, hx1.trans hx2⟩
    · have hp : (0 : Int) < (bytesT l).2 := bytesT_pos l hb
      have hw : writeF R l = (bytesT l).2 := by unfold writeF; rw [if_neg h1, if_pos hb]
      rw [hw]
      clear hw hb h hl h1
      generalize (bytesT l).2 = q at *
      generalize (bytesT l).1 = t at *
      go_enter Tryz.func37, Tryz.ntmps37
      go_wp2_with (go_at_call 70; refine HB.out.mono ?_; rintro e w1 ⟨rfl, hx1⟩)
      go_ret
      exact ⟨rfl, hx1⟩
theorem writeF_pos (R l : List Ent) (h : ¬ writeF R l = 0) : 0 < writeF R l := by
  unfold writeF at *
  split
  · decide
  · rename_i h1
    rw [if_neg h1] at h
    split
    · rename_i hb; exact bytesT_pos l hb
    · rename_i hb
      rw [if_neg hb] at h
      split
      · decide
      · rename_i hq; rw [if_neg hq] at h; exact absurd rfl h
set_option maxRecDepth 20000 in
set_option maxHeartbeats 2000000 in
theorem rWrite_any (w : World) (S : List Nat) (rb : Nat) (R : List Ent) (ao : Option Addr) (cap : Nat) (l : List Ent) (h : RefSt w S rb R) (hS : ∀ b ∈ S, b < w.heap.size) (hR : Ris R) (hRl : R.length ≤ 500) (hll : l.length ≤ 9223372036854775807) (hl : EntsAt w ao l) :
    Calls Tryz.prog 16 #[.pointer (some ⟨rb, 0, none⟩), .slice ao l.length cap] w fun e w' => e = .returned (.int .i64 (writeF R l)) ∧ RefSt w' S rb (wrR R l) ∧ Kp w w' [rb] := by
  have HF : Hid (Calls Tryz.prog 37 #[.pointer (some ⟨rb, 0, none⟩), .slice ao l.length cap] w fun e w' => e = .returned (.int .i64 (writeF R l)) ∧ Ext w w') := rFault_any w S rb R ao cap l h hR hRl hll hl
  by_cases hw : writeF R l = 0
  · have h4 := (writeF_ok hw).2.1
    have HA : Hid (∀ W, Ext w W → Calls Tryz.prog 38 #[.pointer (some ⟨rb, 0, none⟩), .slice ao l.length cap] W fun e w' => ∃ bo c, e = .returned (.slice bo (afterE R l).length c) ∧ Lst W w' (.slice bo (afterE R l).length c) (afterE R l) ∧ EntsAt w' bo (afterE R l)) := fun W hx => (rAfter_any W S rb R ao cap l (h.ext hx) hR hRl (by omega) (hl.ext2 hx)).mono fun _ _ hh => by
      obtain ⟨v, rfl, hv⟩ := hh
      obtain ⟨bo, c, rfl, hb⟩ := hv.at
      exact ⟨bo, c, rfl, hv, hb⟩
    have hr : wrR R l = afterE R l := by unfold wrR; rw [if_pos hw]
    obtain ⟨ro, rc, h1, h2⟩ := h.ex
    have HB : Hid (∀ W, Ext w W → Blk W rb #[.slice ro R.length rc] 33) := fun W hx => h1.ext hx
    have hrb := h1.lt
    have HN : Hid (rb ∉ S ∧ ¬ 1 = rb) := ⟨h.no, h.gl⟩
    rw [hw] at HF ⊢
    rw [hr]
    clear hw hr h hl h1 h2 hR
    generalize afterE R l = A at *
    go_enter Tryz.func16, Tryz.ntmps16
    go_wp2_with (first
      | (go_at_call 37; refine HF.out.mono ?_; rintro e w1 ⟨rfl, hx1⟩)
      | (go_at_call 38; refine (HA.out _ hx1).mono ?_; rintro e w2 ⟨bo, c, rfl, hv, hb⟩; have b2 := HB.out _ (hx1.trans hv.ext); have c2 := b2.cell 0; have f2 := b2.free 0; simp at c2))
    go_ret
    have hx2 := hx1.trans hv.ext
    refine ⟨rfl, ?_, (Kp.ofExt hx2 _).trans (Kp.set _ (by simp) _)⟩
    have hs1 := hx1.size
    have hK : Kp w2 (w2.setCell ⟨rb, 0, none⟩ (.slice bo A.length c)) [rb] := Kp.set _ (by simp) _
    have hbo : ∀ p, bo = some p → w1.heap.size ≤ p.block ∧ p.block < w2.heap.size := fun p e => hv.own.lt p.block (by rw [e]; rfl)
    refine ⟨⟨bo, c, by simpa using b2.set 0 (.slice bo A.length c), hb.kp hK (fun p e hm => ?_), fun p e => ?_, fun p e hm => ?_⟩, HN.out.1, HN.out.2⟩
    · have := hbo p e; simp at hm; omega
    · exact Nat.lt_of_lt_of_le (hbo p e).2 hK.size
    · have := hbo p e
      rcases List.mem_cons.1 hm with h' | h'
      · omega
      · have := hS _ h'; omega
  · have hp : (0 : Int) < writeF R l := writeF_pos R l hw
    have hr : wrR R l = R := by unfold wrR; rw [if_neg hw]
    rw [hr]
    have HN : Hid (RefSt w S rb R) := h
    clear hw hr h hl hR
    generalize writeF R l = f at *
    go_enter Tryz.func16, Tryz.ntmps16
    go_wp2_with (go_at_call 37; refine HF.out.mono ?_; rintro e w1 ⟨rfl, hx1⟩)
    go_ret
    exact ⟨rfl, HN.out.ext hx1, Kp.ofExt hx1 _⟩
end Go.Proofs.YtkibgflbidkalaaGreatDoor
