
/- Manifests: what Bytes answers. -/
import Derived.Test.YtpldeejagomfjaaManB
namespace Go.Proofs.Ytpldeejagomfjaa
open Go.RowKit Go.WideShapes

theorem manF_zero {ep lg : Int} {nw od : List Int} (h : manF ep lg nw od = 0) : (1 ≤ ep ∧ ep ≤ 100000) ∧ scan [] (lg :: (nw ++ od)) = 0 := by
  unfold manF at h
  by_cases h1 : ep < 1 ∨ 100000 < ep
  · rw [if_pos h1] at h; omega
  · rw [if_neg h1] at h; exact ⟨by omega, h⟩
theorem manF_cases (ep lg : Int) (nw od : List Int) : 0 ≤ manF ep lg nw od := by
  have : ∀ l seen, 0 ≤ scan seen l := by
    intro l
    induction l with
    | nil => intro seen; simp [scan]
    | cons b r ih => intro seen; unfold scan; split <;> (try split) <;> (try exact ih _) <;> omega
  unfold manF; split
  · omega
  · exact this _ _
theorem listsI2 {w : World} {b : Nat} {t : TypeId} (A B : LI) (h : Blk w b #[.slice A.ao A.xs.length A.cap, .slice B.ao B.xs.length B.cap] t)
    (hA : NumsAt w A.ao A.xs) (hB : NumsAt w B.ao B.xs) : ListsI w (some ⟨b, 0, none⟩) [A, B] := by
  intro _
  refine ⟨b, 0, rfl, fun i l hl => ?_⟩
  rw [Nat.zero_add, h.cell]
  match i with
  | 0 => simp at hl; subst hl; exact ⟨rfl, hA⟩
  | 1 => simp at hl; subst hl; exact ⟨rfl, hB⟩
  | n + 2 => simp at hl
theorem concat2 (w : World) (no oo : Option Addr) (nc oc : Nat) (nw od : List Int) (t2 : TypeId) (hn : NumsAt w no nw) (ho : NumsAt w oo od) (hl : nw.length + od.length ≤ 100) :
    Calls Try.prog 99 #[.slice (some ⟨w.heap.size, 0, none⟩) 2 2] (w.alloc (.cells #[.slice no nw.length nc, .slice oo od.length oc] t2)) fun e w' => ∃ ao c, e = .returned (.slice ao (nw ++ od).length c) ∧ NumsAt w' ao (nw ++ od) ∧ Ext w w' ∧ ∀ b off, ao = some ⟨b, off, none⟩ → w.heap.size ≤ b ∧ b < w'.heap.size := by
  have hx : Ext w (w.alloc (.cells #[.slice no nw.length nc, .slice oo od.length oc] t2)) := (Ext.refl w).alloc _
  have hc : cat [⟨nw, no, nc⟩, ⟨od, oo, oc⟩] = nw ++ od := by simp [cat]
  have := concat_any (some ⟨w.heap.size, 0, none⟩) 2 [⟨nw, no, nc⟩, ⟨od, oo, oc⟩] _ (by simp) (by rw [hc]; simp; omega) (listsI2 ⟨nw, no, nc⟩ ⟨od, oo, oc⟩ (Blk.new w _ t2) (hn.ext hx) (ho.ext hx))
  rw [hc] at this
  refine this.mono ?_
  rintro e w' ⟨v, rfl, hI⟩
  obtain ⟨ao, cap, hv, ha⟩ := hI.at
  refine ⟨ao, cap, by rw [hv], ha, hx.trans hI.ext, fun b off e => ?_⟩
  subst e
  have h1 := hI.own.lt b (by rw [hv]; rfl)
  exact ⟨Nat.le_trans (by simp) h1.1, h1.2⟩

/-- The first seven. -/
def hd7 (ep lg : Int) (nw od : List Int) : List UInt8 := [77, byt (ep % 256), byt (ep / 256 % 256), byt (ep / 65536), byt lg, UInt8.ofNat nw.length, UInt8.ofNat od.length]
theorem byt_nat (n : Nat) (h : n < 256) : ((byt (n : Int)).toNat : Int) = (n : Int) := by
  unfold byt; simp; omega
theorem hd7_cells (E G : Nat) (nw od : List Int) (hE : E ≤ 100000) (hG : G < 24) (hn : nw.length < 256) (ho : od.length < 256) :
    (Lib.byteCells (hd7 (E : Int) (G : Int) nw od)).toArray = #[.int .u8 77, .int .u8 ((E : Int) % 256), .int .u8 ((E : Int) / 256 % 256), .int .u8 ((E : Int) / 65536), .int .u8 (G : Int), .int .u8 (nw.length : Int), .int .u8 (od.length : Int)] := by
  have e1 : ((byt ((E : Int) % 256)).toNat : Int) = (E : Int) % 256 := by
    have := byt_nat (E % 256) (by omega); simpa using this
  have e2 : ((byt ((E : Int) / 256 % 256)).toNat : Int) = (E : Int) / 256 % 256 := by
    have := byt_nat (E / 256 % 256) (by omega); simpa using this
  have e3 : ((byt ((E : Int) / 65536)).toNat : Int) = (E : Int) / 65536 := by
    have := byt_nat (E / 65536) (by omega); simpa using this
  have e4 := byt_nat G (by omega)
  have e5 : ((UInt8.ofNat nw.length).toNat : Int) = (nw.length : Int) := by simp; omega
  have e6 : ((UInt8.ofNat od.length).toNat : Int) = (od.length : Int) := by simp; omega
  simp only [Lib.byteCells, hd7, List.map_cons, List.map_nil, e1, e2, e3, e4, e5, e6]
  rfl

set_option maxRecDepth 20000 in
set_option maxHeartbeats 2000000 in
theorem manBytes_bad (ep lg : Int) (no oo : Option Addr) (nc oc : Nat) (nw od : List Int) (w : World) (hl : nw.length + od.length ≤ 100) (hn : NumsAt w no nw) (ho : NumsAt w oo od) (hf : ¬ manF ep lg nw od = 0) :
    Calls Try.prog 70 #[.agg #[.int .i64 ep, .int .i64 lg, .slice no nw.length nc, .slice oo od.length oc]] w fun e w' => e = .returned (.tuple #[.string ⟨#[]⟩, .iface 123 (.int .i64 (manF ep lg nw od))]) ∧ Ext w w' := by
  have HC : Hid (∀ o, Calls Try.prog 74 #[.agg #[.int .i64 ep, .int .i64 lg, .slice no nw.length nc, .slice oo od.length oc]] (w.alloc o) fun e w' => e = .returned (.iface 123 (.int .i64 (manF ep lg nw od))) ∧ Ext (w.alloc o) w') := fun o => by
    have := manCheck_any ep lg no oo nc oc nw od (w.alloc o) hl (hn.ext ((Ext.refl w).alloc o)) (ho.ext ((Ext.refl w).alloc o))
    unfold errN at this; rw [if_neg hf] at this; exact this
  clear hn ho
  generalize manF ep lg nw od = f at *
  go_enter Try.func70, Try.ntmps70
  go_wp2_with (go_at_call 74; refine (HC.out _).mono ?_; rintro e w2 ⟨rfl, hx2⟩)
  go_ret2
  exact ⟨rfl, ((Ext.refl w).alloc _).trans hx2⟩

set_option maxRecDepth 20000 in
set_option maxHeartbeats 2000000 in
theorem manBytes_ok (E G : Nat) (no oo : Option Addr) (nc oc : Nat) (nw od : List Int) (w : World) (hl : nw.length + od.length ≤ 100) (hn : NumsAt w no nw) (ho : NumsAt w oo od) (hf : manF (E : Int) (G : Int) nw od = 0) :
    Calls Try.prog 70 #[.agg #[.int .i64 (E : Int), .int .i64 (G : Int), .slice no nw.length nc, .slice oo od.length oc]] w fun e w' => e = .returned (.tuple #[.string (txtM (encM (E : Int) (G : Int) nw od)), .nilIface]) ∧ Ext w w' := by
  obtain ⟨hE, hS⟩ := manF_zero hf
  obtain ⟨hr, _, _⟩ := scan_zero hS
  have HC : Hid (∀ o, Calls Try.prog 74 #[.agg #[.int .i64 (E : Int), .int .i64 (G : Int), .slice no nw.length nc, .slice oo od.length oc]] (w.alloc o) fun e w' => e = .returned .nilIface ∧ Ext (w.alloc o) w') := fun o => by
    have := manCheck_any (E : Int) (G : Int) no oo nc oc nw od (w.alloc o) hl (hn.ext ((Ext.refl w).alloc o)) (ho.ext ((Ext.refl w).alloc o))
    unfold errN at this; rw [if_pos hf] at this; exact this
  have hG := hr (G : Int) (by simp)
  have HR : Hid (∀ x ∈ nw ++ od, 2 ≤ x ∧ x < 24) := fun x hx => hr x (List.mem_cons_of_mem _ hx)
  have HB : Hid (∀ o : Obj, ∀ w2 : World, Ext (w.alloc (.cells #[.int .i64 (E : Int), .int .i64 (G : Int), .slice no nw.length nc, .slice oo od.length oc] 100)) w2 → Blk w2 w.heap.size #[.int .i64 (E : Int), .int .i64 (G : Int), .slice no nw.length nc, .slice oo od.length oc] 100) := fun o w2 hx => Blk.ext hx (Blk.new _ _ _)
  clear hf hS hr
  go_enter Try.func70, Try.ntmps70
  go_wp2_with (go_at_call 74; refine (HC.out _).mono ?_; rintro e w2 ⟨rfl, hx2⟩; have hB2 := HB.out (.cells #[] 0) w2 hx2; have m0 : w2.cell? ⟨w.heap.size, 0, none⟩ = some (.int .i64 (E : Int)) := hB2.cell 0; have m1 : w2.cell? ⟨w.heap.size, 1, none⟩ = some (.int .i64 (G : Int)) := hB2.cell 1; have m2 : w2.cell? ⟨w.heap.size, 2, none⟩ = some (.slice no nw.length nc) := hB2.cell 2; have m3 : w2.cell? ⟨w.heap.size, 3, none⟩ = some (.slice oo od.length oc) := hB2.cell 3; have m4 := hB2.lt; have m5 : ¬ w.heap.size = w2.heap.size := Nat.ne_of_lt m4)
  have hxw : Ext w w2 := ((Ext.refl w).alloc _).trans hx2
  have hL3 : BL w (w2.alloc (.cells #[.int .u8 77, .int .u8 ((E : Int) % 256), .int .u8 ((E : Int) / 256 % 256), .int .u8 ((E : Int) / 65536), .int .u8 (G : Int), .int .u8 (nw.length : Int), .int .u8 (od.length : Int)] 5)) (.slice (some ⟨w2.heap.size, 0, none⟩) 7 7) (hd7 (E : Int) (G : Int) nw od) := by
    have := bl_new hxw (hd7 (E : Int) (G : Int) nw od) (by simp [hd7])
    rw [hd7_cells E G nw od (by omega) (by omega) (by omega) (by omega)] at this
    exact this
  have hs3 : (w2.alloc (.cells #[.int .u8 77, .int .u8 ((E : Int) % 256), .int .u8 ((E : Int) / 256 % 256), .int .u8 ((E : Int) / 65536), .int .u8 (G : Int), .int .u8 (nw.length : Int), .int .u8 (od.length : Int)] 5)).heap.size = w2.heap.size + 1 := by simp
  have CC := concat2 (w2.alloc (.cells #[.int .u8 77, .int .u8 ((E : Int) % 256), .int .u8 ((E : Int) / 256 % 256), .int .u8 ((E : Int) / 65536), .int .u8 (G : Int), .int .u8 (nw.length : Int), .int .u8 (od.length : Int)] 5)) no oo nc oc nw od 74 (hn.ext hL3.ext) (ho.ext hL3.ext) hl
  rw [hs3] at CC
  have hw3' : w2.heap.size < (w2.alloc (.cells #[.int .u8 77, .int .u8 ((E : Int) % 256), .int .u8 ((E : Int) / 256 % 256), .int .u8 ((E : Int) / 65536), .int .u8 (G : Int), .int .u8 (nw.length : Int), .int .u8 (od.length : Int)] 5)).heap.size := by simp
  clear hs3 m0 m1 m2 m3 m4 m5 hB2 hx2 HC HB hn ho
  generalize w2.alloc (.cells #[.int .u8 77, .int .u8 ((E : Int) % 256), .int .u8 ((E : Int) / 256 % 256), .int .u8 ((E : Int) / 65536), .int .u8 (G : Int), .int .u8 (nw.length : Int), .int .u8 (od.length : Int)] 5) = w3 at *
  refine CC.mono ?_
  rintro e w5 ⟨ao, c5, rfl, hN, hx5, hof⟩
  have hw3 : w2.heap.size < w3.heap.size := hw3'
  go_wp2_with fail
  have hL5 := hL3.more hx5
  have HEN : Hid (encM (E : Int) (G : Int) nw od = hd7 (E : Int) (G : Int) nw od ++ (nw ++ od).map byt) := rfl
  have hd7l : (hd7 (E : Int) (G : Int) nw od).length = 7 := rfl
  have hlen : (nw ++ od).length = nw.length + od.length := by simp
  clear CC hL3 hx5 hG hE
  generalize hd7 (E : Int) (G : Int) nw od = h7 at *
  generalize nw ++ od = all at *
  have HLN : Hid (all.length = nw.length + od.length) := hlen
  clear hlen
  have hof0 : ∀ b off, ao = some ⟨b, off, none⟩ → w2.heap.size ≠ b ∧ b < w5.heap.size := fun b off e => by have := hof b off e; omega
  clear hof
  generalize w2.heap.size = g0 at *
  go_loopw [6, 8, 43] (fun v _ i wr => ∃ k g cp : Nat, k ≤ all.length ∧ i = .int .i64 k ∧ v = .slice (some ⟨g, 0, none⟩) (7 + k) cp ∧ BL w wr (.slice (some ⟨g, 0, none⟩) (7 + k) cp) (h7 ++ (all.take k).map byt) ∧ NumsAt wr ao all ∧ ∀ b off, ao = some ⟨b, off, none⟩ → g ≠ b ∧ b < wr.heap.size) (fun _ _ i _ => all.length - (intOf i).toNat)
  case atStart => exact ⟨0, g0, 7, Nat.zero_le _, rfl, rfl, by simpa using hL5, hN, hof0⟩
  case round =>
    clear hL5 hN hof0
    obtain ⟨k, g, cp, hk, rfl, rfl, hL, hN, hof⟩ := hrel
    by_cases hlt : k < all.length
    · obtain ⟨b, off, x, rfl, he, h1⟩ := hN.get hlt
      have hkI : (k : Int) < (nw.length : Int) + (od.length : Int) := by have := HLN.out; omega
      obtain ⟨n, rfl⟩ : ∃ n : Nat, x = (n : Int) := ⟨x.toNat, by have := HR.out x (List.mem_of_getElem? he); omega⟩
      have hn24 : n < 24 := by have := HR.out _ (List.mem_of_getElem? he); omega
      have HS : Hid (h7 ++ (all.take (k + 1)).map byt = h7 ++ (all.take k).map byt ++ [byt (n : Int)]) := by unfold Hid; rw [List.take_add_one, he]; simp
      have hzl : (h7 ++ (all.take k).map byt).length = 7 + k := by simp [hd7l]; omega
      have HBY : Hid (((byt (n : Int)).toNat : Int) = (n : Int)) := byt_nat n (by omega)
      have HN : Hid (NumsAt wr (some ⟨b, off, none⟩) all) := hN
      have hgb := hof b off rfl
      have hk100 : k ≤ 100 := by have := HLN.out; omega
      clear he hN hof
      generalize h7 ++ (all.take k).map byt = z at *
      have HZ : Hid (z.length = 7 + k) := hzl
      clear hzl
      go_wp2_with (at_builtin; refine wpList_app_byte rfl _ _ rfl w (.slice (some ⟨g, 0, none⟩) (7 + k) cp) z rfl ?c1 wr.heap.size (byt (n : Int)) rfl ?c2 ?c3 ?_)
      case c1 => exact hL.alloc _
      case c2 => rw [HBY.out]; exact Blk.new _ _ _
      case c3 => rw [HZ.out]; omega
      intro g2 cp2 w6 hL6 hgr hat hlt6
      rw [HZ.out] at hL6 ⊢
      have hN6 : NumsAt w6 (some ⟨b, off, none⟩) all := fun hne => by
        obtain ⟨b1, o1, e1, hc⟩ := (HN.out.ext ((Ext.refl wr).alloc _)) hne
        cases e1
        exact ⟨b, off, rfl, fun i y hy => hgr.cell (hc i y hy) (by simp [Value.ownBlock]; exact fun e => hgb.1 e.symm)⟩
      have hof6 : ∀ b1 off1, some (⟨b, off, none⟩ : Addr) = some ⟨b1, off1, none⟩ → g2 ≠ b1 ∧ b1 < w6.heap.size := fun b1 o1 e => by
        cases e
        have hsz := hgr.size
        simp at hsz
        refine ⟨?_, by omega⟩
        rcases hat with h | h
        · simp [Value.ownBlock] at h; omega
        · (try simp at h)
          omega
      clear hL hgr hat HN h1
      go_wp2
      go_roundw
      case rel => exact ⟨k + 1, g2, cp2, by omega, by go_num, rfl, by rw [HS.out]; exact hL6, hN6, hof6⟩
      case measure => simp [intOf]; omega
    · have hkI : ¬ ((k : Int) < (nw.length : Int) + (od.length : Int)) := by have := HLN.out; omega
      have htk : all.take k = all := List.take_of_length_le (by omega)
      rw [htk] at hL
      have hzl : (h7 ++ all.map byt).length = 7 + k := by simp [hd7l]; omega
      have hcv := (hL.conv (by intro e; rw [e] at hzl; simp at hzl; omega)).2 g cp (by rw [hzl])
      rw [hzl] at hcv
      have HX : Hid (Ext w wr) := hL.ext
      have HT : Hid (txtM (encM (E : Int) (G : Int) nw od) = txtM (h7 ++ all.map byt)) := by rw [Hid, HEN.out]
      clear hL hN hof htk hzl
      go_wp2
      go_ret2
      exact ⟨by rw [HT.out]; rfl, HX.out⟩
end Go.Proofs.Ytpldeejagomfjaa
