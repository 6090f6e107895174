
/- Manifests: what the document's ManifestOf answers. -/
import Derived.Test.YtpldeejagomfjaaManS
import Derived.Deep.Light
import Derived.Deep.DrawnRows
namespace Go.Proofs.Ytpldeejagomfjaa
open Go.RowKit Go.WideShapes
attribute [local go_sem ↓] Go.wp_at_zero Go.wp_at_succ

def OfEnd (w w' : World) (e : Ending) (o : Option Man) : Prop :=
  (∃ m v, o = some m ∧ e = .returned (.tuple #[v, .int .i64 0]) ∧ ManV w' w.heap.size m v ∧ Ext w w') ∨ (o = none ∧ e = .returned (.tuple #[zeroV, .int .i64 4]) ∧ Ext w w')

set_option maxRecDepth 20000 in
set_option maxHeartbeats 1000000 in
theorem ofM_short (s : ByteArray) (w : World) (h : s.size < 7) :
    Calls Try.prog 73 #[.string s] w fun e w' => e = .returned (.tuple #[zeroV, .int .i64 4]) ∧ Ext w w' := by
  have h' : (s.size : Int) < 7 := by omega
  go_enter Try.func73, Try.ntmps73
  go_wp2
  refine bodyPost_ret (v := .tuple #[zeroV, .int .i64 4]) (by simp [results, go_sem, zeroV]) rfl ⟨rfl, ?_⟩
  exact (Ext.refl w).alloc _
set_option maxRecDepth 20000 in
set_option maxHeartbeats 1000000 in
theorem ofM_mark (s : ByteArray) (w : World) (h7 : 7 ≤ s.size) (h : ¬ s[0].toNat = 77) :
    Calls Try.prog 73 #[.string s] w fun e w' => e = .returned (.tuple #[zeroV, .int .i64 4]) ∧ Ext w w' := by
  have h' : ¬ (s.size : Int) < 7 := by omega
  have hp : 0 < s.size := by omega
  have ix : ∀ W : World, (Instr.index 9 (.string s) (.int .i64 0)).run Try.prog W = .ok (.int .u8 (s[0].toNat : Int)) W := fun W => by
    simp [go_sem, Try.underlying9, hp]
  have h'' : ¬ (s[0].toNat : Int) = 77 := by omega
  generalize (s[0].toNat : Int) = x at *
  clear h
  go_enter Try.func73, Try.ntmps73
  go_wp2
  refine bodyPost_ret (v := .tuple #[zeroV, .int .i64 4]) (by simp [results, go_sem, zeroV]) rfl ⟨rfl, ?_⟩
  exact (Ext.refl w).alloc _
set_option maxRecDepth 20000 in
set_option maxHeartbeats 1000000 in
theorem ofM_far (s : ByteArray) (w : World) (h7 : 7 ≤ s.size) (hs : s.size ≤ 1000) (h : s[0].toNat = 77) (hf : ¬ 7 + s[5].toNat + s[6].toNat ≤ s.size) :
    Calls Try.prog 73 #[.string s] w fun e w' => e = .returned (.tuple #[zeroV, .int .i64 4]) ∧ Ext w w' := by
  have h' : ¬ (s.size : Int) < 7 := by omega
  have hp : 0 < s.size := by omega
  have hp5 : (5 : Int) < s.size := by omega
  have hp6 : (6 : Int) < s.size := by omega
  have ix : ∀ W : World, (Instr.index 9 (.string s) (.int .i64 0)).run Try.prog W = .ok (.int .u8 77) W := fun W => by
    simp [go_sem, Try.underlying9, hp, h]
  have ix5 : ∀ W : World, (Instr.index 9 (.string s) (.int .i64 5)).run Try.prog W = .ok (.int .u8 (s[5].toNat : Int)) W := fun W => by
    simp [go_sem, Try.underlying9, hp5]
  have ix6 : ∀ W : World, (Instr.index 9 (.string s) (.int .i64 6)).run Try.prog W = .ok (.int .u8 (s[6].toNat : Int)) W := fun W => by
    simp [go_sem, Try.underlying9, hp6]
  have l5 := s[5].toNat_lt
  have l6 := s[6].toNat_lt
  generalize s[5].toNat = x5 at *
  generalize s[6].toNat = x6 at *
  have hf' : (s.size : Int) < 7 + (x5 : Int) + (x6 : Int) := by omega
  clear h
  go_enter Try.func73, Try.ntmps73
  go_wp2
  refine bodyPost_ret (v := .tuple #[zeroV, .int .i64 4]) (by simp [results, go_sem, zeroV]) rfl ⟨rfl, ?_⟩
  exact (Ext.refl w).alloc _

theorem wrap3 (a b c : Nat) (ha : a < 256) (hb : b < 256) (hc : c < 256) : IntKind.i64.wrap (IntKind.i64.wrap (IntKind.i64.wrap (a : Int) + IntKind.i64.wrap (256 * IntKind.i64.wrap (b : Int))) + IntKind.i64.wrap (65536 * IntKind.i64.wrap (c : Int))) = (a : Int) + 256 * (b : Int) + 65536 * (c : Int) := by
  rw [wrap_small (a : Int) (by omega) (by omega), wrap_small (b : Int) (by omega) (by omega), wrap_small (c : Int) (by omega) (by omega), wrap_small (256 * (b : Int)) (by omega) (by omega), wrap_small (65536 * (c : Int)) (by omega) (by omega), wrap_small ((a : Int) + 256 * (b : Int)) (by omega) (by omega), wrap_small _ (by omega) (by omega)]
theorem Blk.grown' {w w' : World} {b : Nat} {cs : Array Value} {t : TypeId} {r : Option Nat} (h : Blk w b cs t) (hg : w.grownBy w' r) (hne : ¬ r = some b) : Blk w' b cs t :=
  ⟨by rw [hg.block b h.lt (fun e => hne e.symm)]; exact h.blk⟩
theorem own_form {w : World} {base : Nat} {t : TypeId} {size n : Nat} {v : Value} {xs : List Value} (h : w.ownsRow base t size v n xs) : ∃ ao cap, v = .slice ao n cap := by
  rcases h.2 with ⟨h1, h2⟩ | ⟨g, cap, cur, h1, _⟩
  · exact ⟨none, 0, by rw [h1, h2]⟩
  · exact ⟨_, cap, h1⟩
theorem own_nums {w : World} {base n c : Nat} {ao : Option Addr} {xs : List Int} (h : w.ownsRow base 3 1 (.slice ao n c) xs.length (rowI xs)) : NumsAt w ao xs := fun hne => by
  rcases h.2 with ⟨h1, h2⟩ | ⟨g, cap, cur, h1, _⟩
  · exact absurd (List.length_eq_zero_iff.1 h2) hne
  · cases h1
    refine ⟨g, 0, rfl, fun i x hx => ?_⟩
    have := h.cells (g := g) rfl i (.int .i64 x) (by unfold rowI; rw [List.getElem?_map, hx]; rfl)
    rwa [add_plain] at this
/-- Growth behind a world, one block of which is written. -/
theorem grown_over {a b c : World} {r q : Option Nat} (h : a.grownBy b r) (hg : b.grownBy c q) (hq : ∀ k, q = some k → a.heap.size ≤ k) : a.grownBy c r :=
  ⟨hg.os.trans h.os, hg.tape.trans h.tape, hg.output.trans h.output, Nat.le_trans h.size hg.size, fun k hk hr => by
    rw [hg.block k (Nat.lt_of_lt_of_le hk h.size) (fun e => by have := hq k e.symm; omega)]; exact h.block k hk hr⟩

set_option maxRecDepth 20000 in
set_option maxHeartbeats 2000000 in
theorem ofM_in (s : ByteArray) (w : World) (b1 b2 b3 b4 n k : UInt8) (hs : s.size ≤ 100) (h7 : 7 ≤ s.size) (h0 : s[0] = 77) (e1 : s[1] = b1) (e2 : s[2] = b2) (e3 : s[3] = b3) (e4 : s[4] = b4) (e5 : s[5] = n) (e6 : s[6] = k) (hlen : 7 + n.toNat + k.toNat ≤ s.size)
    (ep lg : Int) (nw od : List Int) (hep : ep = (b1.toNat : Int) + 256 * (b2.toNat : Int) + 65536 * (b3.toNat : Int)) (hlg : lg = (b4.toNat : Int)) (hnw : nw = numsOf ((s.data.toList.drop 7).take n.toNat)) (hod : od = numsOf ((s.data.toList.drop (7 + n.toNat)).take k.toNat)) :
    Calls Try.prog 73 #[.string s] w fun e w' => (manF ep lg nw od = 0 ∧ ∃ a1 c1 a2 c2, e = .returned (.tuple #[.agg #[.int .i64 ep, .int .i64 lg, .slice a1 nw.length c1, .slice a2 od.length c2], .int .i64 0]) ∧ NumsF w' w.heap.size a1 nw ∧ NumsF w' w.heap.size a2 od ∧ Ext w w') ∨
      (¬ manF ep lg nw od = 0 ∧ e = .returned (.tuple #[zeroV, .int .i64 4]) ∧ Ext w w') := by
  have hb1 : b1.toNat < 256 := b1.toNat_lt
  have hb2 : b2.toNat < 256 := b2.toNat_lt
  have hb3 : b3.toNat < 256 := b3.toNat_lt
  have hb4 : b4.toNat < 256 := b4.toNat_lt
  have hbn : n.toNat < 256 := n.toNat_lt
  have hbk : k.toNat < 256 := k.toNat_lt
  have ix : ∀ (i : Nat) (y : UInt8), ∀ hi : i < s.size, s[i] = y → ∀ W : World, (Instr.index 9 (.string s) (.int .i64 (i : Int))).run Try.prog W = .ok (.int .u8 (y.toNat : Int)) W := fun i y hi hy W => by
    subst hy; simp [go_sem, Try.underlying9, hi]
  have i0 := ix 0 77 (by omega) h0
  have i1 := ix 1 b1 (by omega) e1
  have i2 := ix 2 b2 (by omega) e2
  have i3 := ix 3 b3 (by omega) e3
  have i4 := ix 4 b4 (by omega) e4
  have i5 := ix 5 n (by omega) e5
  have i6 := ix 6 k (by omega) e6
  simp only [Int.cast_ofNat_Int] at i0 i1 i2 i3 i4 i5 i6
  have HIX : Hid (∀ i, i < s.size → ∀ W : World, (Instr.index 9 (.string s) (.int .i64 (i : Int))).run Try.prog W = .ok (.int .u8 (((s.data.toList.getD i 0).toNat : Nat) : Int)) W) := fun i hi W => by
    have := ix i s[i] hi rfl W
    rw [this, List.getD_eq_getElem?_getD, List.getElem?_eq_getElem (by simpa using hi)]; rfl
  have t7 : ¬ ((s.size : Int) < 7) := by omega
  have tl : ¬ ((s.size : Int) < 7 + (n.toNat : Int) + (k.toNat : Int)) := by omega
  have hp0 : 0 < s.size := by omega
  have hll : s.data.toList.length = s.size := (Lib.size_eq s).symm
  clear h0 e1 e2 e3 e4 e5 e6 ix
  simp only [show ((77 : UInt8).toNat : Int) = 77 from rfl] at i0
  have HEP : Hid (ep = (b1.toNat : Int) + 256 * (b2.toNat : Int) + 65536 * (b3.toNat : Int)) := hep
  have HLG : Hid (lg = (b4.toNat : Int)) := hlg
  have HNW : Hid (nw = numsOf ((s.data.toList.drop 7).take n.toNat)) := hnw
  have HOD : Hid (od = numsOf ((s.data.toList.drop (7 + n.toNat)).take k.toNat)) := hod
  clear hep hlg hnw hod
  go_enter Try.func73, Try.ntmps73
  go_upto_region 7 with fail
  go_cut [6] (fun s6 wx => s6 = .pointer (some ⟨w.heap.size + 1, 0, none⟩) ∧ Blk wx (w.heap.size + 1) #[.int .i64 ep, .int .i64 lg, .slice none 0 0, .slice none 0 0] 100 ∧ Blk wx w.heap.size #[.int .i64 0, .int .i64 0, .slice none 0 0, .slice none 0 0] 100 ∧ Ext w wx)
  case first =>
    refine wp_region_held_drew (S := fun _ => True) (by kernel_rfl) trivial (fun hHeld => ?_)
    refine wpAnyH_take (i := 0) (v := ?_) rfl (by kernel_rfl) (by kernel_rfl) (by kernel_rfl) (fun _ _ _ h => h) (Or.inl ⟨by rfl, ?_⟩) trivial ?_
    rotate_left
    · intro w hSw; go_simp; try with_reducible rfl
    try simp only [Act.put, List.setIfInBounds_toArray]
    refine wpAnyH_take (i := 3) (v := ?_) rfl (by kernel_rfl) (by kernel_rfl) (by kernel_rfl) (fun _ _ _ h => h) (Or.inl ⟨by rfl, ?_⟩) trivial ?_
    rotate_left
    · intro w hSw; go_simp; try with_reducible rfl
    try simp only [Act.put]
    refine wpAnyH_take (i := 8) (v := ?_) rfl (by kernel_rfl) (by kernel_rfl) (by kernel_rfl) (fun _ _ _ h => h) (Or.inl ⟨by rfl, ?_⟩) trivial ?_
    rotate_left
    · intro w hSw; go_simp; try with_reducible rfl
    try simp only [Act.put]
    refine wpAnyH_take (i := 13) (v := ?_) rfl (by kernel_rfl) (by kernel_rfl) (by kernel_rfl) (fun _ _ _ h => h) (Or.inl ⟨by rfl, ?_⟩) trivial ?_
    rotate_left
    · intro w hSw; go_simp; try with_reducible rfl
    try simp only [Act.put]
    refine wpAnyH_take (i := 1) (v := ?_) rfl (by kernel_rfl) (by kernel_rfl) (by kernel_rfl) (fun _ _ _ h => h) (Or.inl ⟨by rfl, ?_⟩) trivial ?_
    rotate_left
    · intro w hSw; go_simp; try with_reducible rfl
    try simp only [Act.put]
    refine wpAnyH_take (i := 4) (v := ?_) rfl (by kernel_rfl) (by kernel_rfl) (by kernel_rfl) (fun _ _ _ h => h) (Or.inl ⟨by rfl, ?_⟩) trivial ?_
    rotate_left
    · intro w hSw; go_simp; try with_reducible rfl
    try simp only [Act.put]
    refine wpAnyH_take (i := 9) (v := ?_) rfl (by kernel_rfl) (by kernel_rfl) (by kernel_rfl) (fun _ _ _ h => h) (Or.inl ⟨by rfl, ?_⟩) trivial ?_
    rotate_left
    · intro w hSw; go_simp; try with_reducible rfl
    try simp only [Act.put]
    refine wpAnyH_take (i := 14) (v := ?_) rfl (by kernel_rfl) (by kernel_rfl) (by kernel_rfl) (fun _ _ _ h => h) (Or.inl ⟨by rfl, ?_⟩) trivial ?_
    rotate_left
    · intro w hSw; go_simp; try with_reducible rfl
    try simp only [Act.put]
    refine wpAnyH_take (i := 2) (v := ?_) rfl (by kernel_rfl) (by kernel_rfl) (by kernel_rfl) (fun _ _ _ h => h) (Or.inl ⟨by rfl, ?_⟩) trivial ?_
    rotate_left
    · intro w hSw; go_simp; try with_reducible rfl
    try simp only [Act.put]
    refine wpAnyH_take (i := 5) (v := ?_) rfl (by kernel_rfl) (by kernel_rfl) (by kernel_rfl) (fun _ _ _ h => h) (Or.inl ⟨by rfl, ?_⟩) trivial ?_
    rotate_left
    · intro w hSw; go_simp; try with_reducible rfl
    try simp only [Act.put]
    refine wpAnyH_take (i := 6) (v := ?_) rfl (by kernel_rfl) (by kernel_rfl) (by kernel_rfl) (fun _ _ _ h => h) (Or.inl ⟨by rfl, ?_⟩) trivial ?_
    rotate_left
    · intro w hSw; go_simp; try with_reducible rfl
    try simp only [Act.put]
    refine wpAnyH_take (i := 7) (v := ?_) rfl (by kernel_rfl) (by kernel_rfl) (by kernel_rfl) (fun _ _ _ h => h) (Or.inl ⟨by rfl, ?_⟩) trivial ?_
    rotate_left
    · intro w hSw; go_simp; try with_reducible rfl
    try simp only [Act.put]
    refine wpAnyH_take (i := 10) (v := ?_) rfl (by kernel_rfl) (by kernel_rfl) (by kernel_rfl) (fun _ _ _ h => h) (Or.inl ⟨by rfl, ?_⟩) trivial ?_
    rotate_left
    · intro w hSw; go_simp; try with_reducible rfl
    try simp only [Act.put]
    refine wpAnyH_take (i := 11) (v := ?_) rfl (by kernel_rfl) (by kernel_rfl) (by kernel_rfl) (fun _ _ _ h => h) (Or.inl ⟨by rfl, ?_⟩) trivial ?_
    rotate_left
    · intro w hSw; go_simp; try with_reducible rfl
    try simp only [Act.put]
    refine wpAnyH_take (i := 12) (v := ?_) rfl (by kernel_rfl) (by kernel_rfl) (by kernel_rfl) (fun _ _ _ h => h) (Or.inl ⟨by rfl, ?_⟩) trivial ?_
    rotate_left
    · intro w hSw; go_simp; try with_reducible rfl
    try simp only [Act.put]
    refine wpAnyH_take (i := 15) (v := ?_) rfl (by kernel_rfl) (by kernel_rfl) (by kernel_rfl) (fun _ _ _ h => h) (Or.inl ⟨by rfl, ?_⟩) trivial ?_
    rotate_left
    · intro w hSw; go_simp; try with_reducible rfl
    try simp only [Act.put]
    refine wpAnyH_take (i := 16) (v := ?_) rfl (by kernel_rfl) (by kernel_rfl) (by kernel_rfl) (fun _ _ _ h => h) (Or.inl ⟨by rfl, ?_⟩) trivial ?_
    rotate_left
    · intro w hSw; go_simp; try with_reducible rfl
    try simp only [Act.put]
    refine wpAnyH_ready (rs := [17]) (by kernel_rfl) (by simp) ?_
    refine AllReadyH.cons rfl (fun K hK => ?_) ?_
    · go_simp
      refine hK.out _ _ trivial (fun hHeld => ?_)
      clear hK K
      try simp only [Act.put, List.setIfInBounds_toArray, List.set_cons_zero, List.set_cons_succ]
      refine wpAnyH_ready (rs := [18]) (by kernel_rfl) (by simp) ?_
      refine AllReadyH.cons rfl (fun K hK => ?_) ?_
      · go_simp
        refine hK.out _ _ trivial (fun hHeld => ?_)
        clear hK K
        try simp only [Act.put, List.setIfInBounds_toArray, List.set_cons_zero, List.set_cons_succ]
        refine wpAnyH_done (by kernel_rfl) ?_ _
        go_wp2_with fail
        go_meet
        rw [wrap3 b1.toNat b2.toNat b3.toNat hb1 hb2 hb3, wrap_small (b4.toNat : Int) (by omega) (by omega), ← HEP.out, ← HLG.out]
        exact ⟨rfl, (Blk.new' _ _ _ (by simp)).drew, ((Blk.new _ _ _).alloc _).drew, (((Ext.refl w).alloc _).alloc _).drew⟩
      exact AllReadyH.nil
    exact AllReadyH.nil
  case rest =>
    obtain ⟨rfl, hB0, hR0, hx0⟩ := hcut
    clear i0 i1 i2 i3 i4 i5 i6 t7 tl hb1 hb2 hb3 hb4
    have hszB : w.heap.size + 1 < wc.heap.size := hB0.lt
    go_wp2_with fail
    go_loopw [7] (fun i wr => ∃ (j : Nat) (v : Value), j ≤ n.toNat ∧ i = .int .i64 j ∧ Blk wr (w.heap.size + 1) #[.int .i64 ep, .int .i64 lg, v, .slice none 0 0] 100 ∧ wr.ownsRow wc.heap.size 3 1 v (nw.take j).length (rowI (nw.take j)) ∧ wc.grownBy wr (some (w.heap.size + 1))) (fun i _ => n.toNat - (intOf i).toNat)
    case atStart => exact ⟨0, _, Nat.zero_le _, rfl, hB0, World.ownsRow_nil _ _ _ _, grow_refl _ _⟩
    case round =>
      obtain ⟨j, v, hj, rfl, hB, hO, hG⟩ := hrel
      by_cases hlt : j < n.toNat
      · have hlt' : (j : Int) < (n.toNat : Int) := by omega
        have ixx := HIX.out (7 + j) (by omega)
        rw [show ((7 + j : Nat) : Int) = 7 + (j : Int) by omega] at ixx
        have hwj : IntKind.i64.wrap (7 + (j : Int)) = 7 + (j : Int) := wrap_small _ (by omega) (by omega)
        have ixw := ixx
        rw [← hwj] at ixw
        have hnl : nw.length = n.toNat := by rw [HNW.out]; simp [numsOf]; omega
        have hnj : nw[j]? = some (((s.data.toList.getD (7 + j) 0).toNat : Nat) : Int) := by
          rw [HNW.out]; unfold numsOf
          rw [List.getElem?_map, List.getElem?_take, if_pos hlt, List.getElem?_drop, List.getElem?_eq_getElem (by omega), List.getD_eq_getElem?_getD, List.getElem?_eq_getElem (by omega)]; rfl
        have hy := (s.data.toList.getD (7 + j) 0).toNat_lt
        generalize (s.data.toList.getD (7 + j) 0).toNat = y at *
        have HWY : Hid (IntKind.i64.wrap (y : Int) = (y : Int)) := wrap_small _ (by omega) (by omega)
        have HTK : Hid (nw.take (j + 1) = nw.take j ++ [(y : Int)]) := by rw [Hid, List.take_add_one, hnj]; rfl
        have hjl : (nw.take j).length = j := by simp; omega
        have g2 : wr.cell? ⟨w.heap.size + 1, 2, none⟩ = some v := hB.cell 2
        have f2 := hB.free 2
        have hBl := hB.lt
        obtain ⟨vo, vc, hv⟩ := own_form hO
        rw [hjl] at hv
        subst hv
        have HBX : Hid (∀ w', (wr.alloc (.cells #[.int .i64 (IntKind.i64.wrap (y : Int))] 3)).drew.grownBy w' (Value.slice vo j vc).ownBlock → Blk w' (w.heap.size + 1) #[.int .i64 ep, .int .i64 lg, .slice vo j vc, .slice none 0 0] 100) := fun w' hg => (hB.alloc _).drew.grown' hg (fun e => by have := hO.lt _ e; omega)
        have HBN : Hid (Blk (wr.alloc (.cells #[.int .i64 (IntKind.i64.wrap (y : Int))] 3)).drew (w.heap.size + 1) #[.int .i64 ep, .int .i64 lg, .slice vo j vc, .slice none 0 0] 100) := (hB.alloc _).drew
        have hOd : (wr.alloc (.cells #[.int .i64 (IntKind.i64.wrap (y : Int))] 3)).drew.ownsRow wc.heap.size 3 1 (.slice vo j vc) (nw.take j).length (rowI (nw.take j)) := (hO.alloc _).drew
        have hNy : NumsAt (wr.alloc (.cells #[.int .i64 (IntKind.i64.wrap (y : Int))] 3)).drew (some ⟨wr.heap.size, 0, none⟩) [IntKind.i64.wrap (y : Int)] := nums_blk (Blk.drew (Blk.new _ _ _))
        have hszr : wc.heap.size ≤ wr.heap.size := hG.size
        have hbs : wc.heap.size ≤ (wr.alloc (.cells #[.int .i64 (IntKind.i64.wrap (y : Int))] 3)).drew.heap.size := by show wc.heap.size ≤ (wr.alloc (.cells #[.int .i64 (IntKind.i64.wrap (y : Int))] 3)).heap.size; simp; omega
        have HG : Hid (wc.grownBy (wr.alloc (.cells #[.int .i64 (IntKind.i64.wrap (y : Int))] 3)).drew (some (w.heap.size + 1))) := grow_drew (grow_trans hG (grow_alloc _ _ _))
        have HOD : Hid ((wr.alloc (.cells #[.int .i64 (IntKind.i64.wrap (y : Int))] 3)).drew.ownsRow wc.heap.size 3 1 (.slice vo j vc) (nw.take j).length (rowI (nw.take j))) := hOd
        have HNY : Hid (NumsAt (wr.alloc (.cells #[.int .i64 (IntKind.i64.wrap (y : Int))] 3)).drew (some ⟨wr.heap.size, 0, none⟩) [IntKind.i64.wrap (y : Int)]) := hNy
        have HLEN : Hid ((nw.take j).length = j) := hjl
        clear hOd hNy hB hO hG hnj hjl
        go_upto_region 11 with fail
        refine wp_region_held_drew (S := fun _ => True) (by kernel_rfl) trivial (fun hHeld => ?_)
        refine wpAnyH_take (i := 0) (v := ?_) rfl (by kernel_rfl) (by kernel_rfl) (by kernel_rfl) (fun _ _ _ h => h) (Or.inl ⟨by rfl, ?_⟩) trivial ?_
        rotate_left
        · intro w hSw; go_simp; try with_reducible rfl
        try simp only [Act.put, List.setIfInBounds_toArray]
        refine wpAnyH_take (i := 2) (v := ?_) rfl (by kernel_rfl) (by kernel_rfl) (by kernel_rfl) (fun _ _ _ h => h) (Or.inl ⟨by rfl, ?_⟩) trivial ?_
        rotate_left
        · intro w hSw; go_simp; try with_reducible rfl
        try simp only [Act.put]
        refine wpAnyH_take (i := 3) (v := ?_) rfl (by kernel_rfl) (by kernel_rfl) (by kernel_rfl) (fun _ _ _ h => h) (Or.inl ⟨by rfl, ?_⟩) trivial ?_
        rotate_left
        · intro w hSw; go_simp; try with_reducible rfl
        try simp only [Act.put]
        refine wpAnyH_take (i := 4) (v := ?_) rfl (by kernel_rfl) (by kernel_rfl) (by kernel_rfl) (fun _ _ _ h => h) (Or.inl ⟨by rfl, ?_⟩) trivial ?_
        rotate_left
        · intro w hSw; go_simp; try with_reducible rfl
        try simp only [Act.put]
        refine wpAnyH_take (i := 5) (v := ?_) rfl (by kernel_rfl) (by kernel_rfl) (by kernel_rfl) (fun _ _ _ h => h) (Or.inl ⟨by rfl, ?_⟩) trivial ?_
        rotate_left
        · intro w hSw; go_simp; try with_reducible rfl
        try simp only [Act.put]
        refine wpAnyH_take (i := 6) (v := ?_) rfl (by kernel_rfl) (by kernel_rfl) (by kernel_rfl) (fun _ _ _ h => h) (Or.inl ⟨by rfl, ?_⟩) trivial ?_
        rotate_left
        · intro w hSw; go_simp; try with_reducible rfl
        try simp only [Act.put]
        refine wpAnyH_ready (rs := [1, 7]) (by kernel_rfl) (by simp) ?_
        refine AllReadyH.cons rfl (fun K hK => ?_) ?_
        · go_simp
          refine hK.out _ _ trivial (fun hHeld => ?_)
          clear hK K
          try simp only [Act.put, List.setIfInBounds_toArray, List.set_cons_zero, List.set_cons_succ]
          refine wpAnyH_ready (rs := [7]) (by kernel_rfl) (by simp) ?_
          refine AllReadyH.cons rfl (fun K hK => ?_) ?_
          · go_simp
            refine hK.out _ _ trivial (fun hHeld => ?_)
            clear hK K
            try simp only [Act.put, List.setIfInBounds_toArray, List.set_cons_zero, List.set_cons_succ]
            refine wpAnyH_ready (rs := [8]) (by kernel_rfl) (by simp) ?_
            refine AllReadyH.cons rfl (fun K hK => ?_) ?_
            · refine step_app_row (by rfl) (.tmp 55) (.tmp 61) (by rfl) wc.heap.size (.slice vo j vc) (nw.take j) (by rfl) HOD.out hbs (some ⟨wr.heap.size, 0, none⟩) 1 [IntKind.i64.wrap (y : Int)] (by rfl) HNY.out (by simp; omega) ?_
              intro v1 w1 hO1 hg1
              obtain ⟨o1, k1, hv1⟩ := own_form hO1
              rw [List.length_append, HLEN.out, List.length_singleton] at hv1
              subst hv1
              have s2 : w1.cell? ⟨w.heap.size + 1, 2, none⟩ = some (.slice vo j vc) := (HBX.out _ hg1).cell 2
              have sf2 := (HBX.out _ hg1).free 2
              have sl := (HBX.out _ hg1).lt
              refine hK.out _ _ trivial (fun hHeld => ?_)
              clear hK K
              try simp only [Act.put, List.setIfInBounds_toArray]
              refine wpAnyH_take (i := 9) (v := ?_) rfl (by kernel_rfl) (by kernel_rfl) (by kernel_rfl) (fun _ _ _ h => h) (Or.inl ⟨by rfl, ?_⟩) trivial ?_
              rotate_left
              · intro w hSw; go_simp; try with_reducible rfl
              try simp only [Act.put]
              refine wpAnyH_ready (rs := [10]) (by kernel_rfl) (by simp) ?_
              refine AllReadyH.cons rfl (fun K hK => ?_) ?_
              · go_simp
                refine hK.out _ _ trivial (fun hHeld => ?_)
                clear hK K
                try simp only [Act.put, List.setIfInBounds_toArray, List.set_cons_zero, List.set_cons_succ]
                refine wpAnyH_done (by kernel_rfl) ?_ _
                go_wp2
                go_roundw
                case rel =>
                  have hO2 : (w1.setCell ⟨w.heap.size + 1, 2, none⟩ (.slice o1 (j + 1) k1)).ownsRow wc.heap.size 3 1 (.slice o1 (j + 1) k1) (nw.take j ++ [IntKind.i64.wrap (y : Int)]).length (rowI (nw.take j ++ [IntKind.i64.wrap (y : Int)])) := hO1.kept (grow_set _ _ _ _) (.inr fun e => by have := hO1.lt _ e; omega)
                  rw [HWY.out, ← HTK.out] at hO2
                  exact ⟨j + 1, _, by omega, by go_num, (HBX.out _ hg1).set 2 _, hO2, grow_trans (grown_over HG.out hg1 (fun k e => (HOD.out.lt k e).1)) (grow_set _ _ _ _)⟩
                case measure => simp [intOf]; omega
              exact AllReadyH.nil
            exact AllReadyH.nil
          exact AllReadyH.nil
        refine AllReadyH.cons rfl (fun K hK => ?_) ?_
        · go_simp
          refine hK.out _ _ trivial (fun hHeld => ?_)
          clear hK K
          try simp only [Act.put, List.setIfInBounds_toArray, List.set_cons_zero, List.set_cons_succ]
          refine wpAnyH_ready (rs := [1]) (by kernel_rfl) (by simp) ?_
          refine AllReadyH.cons rfl (fun K hK => ?_) ?_
          · go_simp
            refine hK.out _ _ trivial (fun hHeld => ?_)
            clear hK K
            try simp only [Act.put, List.setIfInBounds_toArray, List.set_cons_zero, List.set_cons_succ]
            refine wpAnyH_ready (rs := [8]) (by kernel_rfl) (by simp) ?_
            refine AllReadyH.cons rfl (fun K hK => ?_) ?_
            · refine step_app_row (by rfl) (.tmp 55) (.tmp 61) (by rfl) wc.heap.size (.slice vo j vc) (nw.take j) (by rfl) HOD.out hbs (some ⟨wr.heap.size, 0, none⟩) 1 [IntKind.i64.wrap (y : Int)] (by rfl) HNY.out (by simp; omega) ?_
              intro v1 w1 hO1 hg1
              obtain ⟨o1, k1, hv1⟩ := own_form hO1
              rw [List.length_append, HLEN.out, List.length_singleton] at hv1
              subst hv1
              have s2 : w1.cell? ⟨w.heap.size + 1, 2, none⟩ = some (.slice vo j vc) := (HBX.out _ hg1).cell 2
              have sf2 := (HBX.out _ hg1).free 2
              have sl := (HBX.out _ hg1).lt
              refine hK.out _ _ trivial (fun hHeld => ?_)
              clear hK K
              try simp only [Act.put, List.setIfInBounds_toArray]
              refine wpAnyH_take (i := 9) (v := ?_) rfl (by kernel_rfl) (by kernel_rfl) (by kernel_rfl) (fun _ _ _ h => h) (Or.inl ⟨by rfl, ?_⟩) trivial ?_
              rotate_left
              · intro w hSw; go_simp; try with_reducible rfl
              try simp only [Act.put]
              refine wpAnyH_ready (rs := [10]) (by kernel_rfl) (by simp) ?_
              refine AllReadyH.cons rfl (fun K hK => ?_) ?_
              · go_simp
                refine hK.out _ _ trivial (fun hHeld => ?_)
                clear hK K
                try simp only [Act.put, List.setIfInBounds_toArray, List.set_cons_zero, List.set_cons_succ]
                refine wpAnyH_done (by kernel_rfl) ?_ _
                go_wp2
                go_roundw
                case rel =>
                  have hO2 : (w1.setCell ⟨w.heap.size + 1, 2, none⟩ (.slice o1 (j + 1) k1)).ownsRow wc.heap.size 3 1 (.slice o1 (j + 1) k1) (nw.take j ++ [IntKind.i64.wrap (y : Int)]).length (rowI (nw.take j ++ [IntKind.i64.wrap (y : Int)])) := hO1.kept (grow_set _ _ _ _) (.inr fun e => by have := hO1.lt _ e; omega)
                  rw [HWY.out, ← HTK.out] at hO2
                  exact ⟨j + 1, _, by omega, by go_num, (HBX.out _ hg1).set 2 _, hO2, grow_trans (grown_over HG.out hg1 (fun k e => (HOD.out.lt k e).1)) (grow_set _ _ _ _)⟩
                case measure => simp [intOf]; omega
              exact AllReadyH.nil
            exact AllReadyH.nil
          exact AllReadyH.nil
        exact AllReadyH.nil
      · have hlt' : ¬ (j : Int) < (n.toNat : Int) := by omega
        have hnl : nw.length = n.toNat := by rw [HNW.out]; simp [numsOf]; omega
        have htk : nw.take j = nw := List.take_of_length_le (by omega)
        rw [htk] at hO
        obtain ⟨x1, y1, hv⟩ := own_form hO
        subst hv
        have hN1 : NumsF wr (w.heap.size + 1) x1 nw := ⟨fun p e => by subst e; have := hO.lt p.block rfl; omega, fun hne => by
          obtain ⟨b, off, e, hc⟩ := own_nums hO hne
          subst e
          exact ⟨b, off, rfl, by have := (hO.lt b rfl).1; omega, hc⟩⟩
        have hB9 := hB
        have hR9 : Blk wr w.heap.size #[.int .i64 0, .int .i64 0, .slice none 0 0, .slice none 0 0] 100 := hR0.grown hG (by omega)
        have hX9 : Ext w wr := hx0.grown hG (fun k e => by cases e; omega)
        have HOD0 : Hid (od = numsOf ((s.data.toList.drop (7 + n.toNat)).take k.toNat)) := HOD.out
        have hszM : w.heap.size + 1 < wr.heap.size := hB.lt
        clear hB hO hG hB0 hR0 hx0 htk hszB
        go_wp2_with fail
        obtain ⟨wm, hwm⟩ : ∃ wm : World, wm = wr := ⟨_, rfl⟩
        subst hwm
        go_loopw [8] (fun i wr => ∃ (j : Nat) (v : Value), j ≤ k.toNat ∧ i = .int .i64 j ∧ Blk wr (w.heap.size + 1) #[.int .i64 ep, .int .i64 lg, .slice x1 nw.length y1, v] 100 ∧ wr.ownsRow wm.heap.size 3 1 v (od.take j).length (rowI (od.take j)) ∧ wm.grownBy wr (some (w.heap.size + 1))) (fun i _ => k.toNat - (intOf i).toNat)
        case atStart => exact ⟨0, _, Nat.zero_le _, rfl, hB9, World.ownsRow_nil _ _ _ _, grow_refl _ _⟩
        case round =>
          obtain ⟨j, v, hj, rfl, hB, hO, hG⟩ := hrel
          by_cases hlt : j < k.toNat
          · have hlt' : (j : Int) < (k.toNat : Int) := by omega
            have ixx := HIX.out (7 + n.toNat + j) (by omega)
            rw [show ((7 + n.toNat + j : Nat) : Int) = 7 + (n.toNat : Int) + (j : Int) by omega] at ixx
            have hwj : IntKind.i64.wrap (IntKind.i64.wrap (7 + (n.toNat : Int)) + (j : Int)) = 7 + (n.toNat : Int) + (j : Int) := by rw [wrap_small (7 + (n.toNat : Int)) (by omega) (by omega)]; exact wrap_small _ (by omega) (by omega)
            have ixw := ixx
            rw [← hwj] at ixw
            have hnl : od.length = k.toNat := by rw [HOD0.out]; simp [numsOf]; omega
            have hnj : od[j]? = some (((s.data.toList.getD (7 + n.toNat + j) 0).toNat : Nat) : Int) := by
              rw [HOD0.out]; unfold numsOf
              rw [List.getElem?_map, List.getElem?_take, if_pos hlt, List.getElem?_drop, List.getElem?_eq_getElem (by omega), List.getD_eq_getElem?_getD, List.getElem?_eq_getElem (by omega)]; rfl
            have hy := (s.data.toList.getD (7 + n.toNat + j) 0).toNat_lt
            generalize (s.data.toList.getD (7 + n.toNat + j) 0).toNat = y at *
            have HWY : Hid (IntKind.i64.wrap (y : Int) = (y : Int)) := wrap_small _ (by omega) (by omega)
            have HTK : Hid (od.take (j + 1) = od.take j ++ [(y : Int)]) := by rw [Hid, List.take_add_one, hnj]; rfl
            have hjl : (od.take j).length = j := by simp; omega
            have g2 : wr.cell? ⟨w.heap.size + 1, 3, none⟩ = some v := hB.cell 3
            have f2 := hB.free 3
            have hBl := hB.lt
            obtain ⟨vo, vc, hv⟩ := own_form hO
            rw [hjl] at hv
            subst hv
            have HBX : Hid (∀ w', (wr.alloc (.cells #[.int .i64 (IntKind.i64.wrap (y : Int))] 3)).drew.grownBy w' (Value.slice vo j vc).ownBlock → Blk w' (w.heap.size + 1) #[.int .i64 ep, .int .i64 lg, .slice x1 nw.length y1, .slice vo j vc] 100) := fun w' hg => (hB.alloc _).drew.grown' hg (fun e => by have := hO.lt _ e; omega)
            have HBN : Hid (Blk (wr.alloc (.cells #[.int .i64 (IntKind.i64.wrap (y : Int))] 3)).drew (w.heap.size + 1) #[.int .i64 ep, .int .i64 lg, .slice x1 nw.length y1, .slice vo j vc] 100) := (hB.alloc _).drew
            have hOd : (wr.alloc (.cells #[.int .i64 (IntKind.i64.wrap (y : Int))] 3)).drew.ownsRow wm.heap.size 3 1 (.slice vo j vc) (od.take j).length (rowI (od.take j)) := (hO.alloc _).drew
            have hNy : NumsAt (wr.alloc (.cells #[.int .i64 (IntKind.i64.wrap (y : Int))] 3)).drew (some ⟨wr.heap.size, 0, none⟩) [IntKind.i64.wrap (y : Int)] := nums_blk (Blk.drew (Blk.new _ _ _))
            have hszr : wm.heap.size ≤ wr.heap.size := hG.size
            have hbs : wm.heap.size ≤ (wr.alloc (.cells #[.int .i64 (IntKind.i64.wrap (y : Int))] 3)).drew.heap.size := by show wm.heap.size ≤ (wr.alloc (.cells #[.int .i64 (IntKind.i64.wrap (y : Int))] 3)).heap.size; simp; omega
            have HG : Hid (wm.grownBy (wr.alloc (.cells #[.int .i64 (IntKind.i64.wrap (y : Int))] 3)).drew (some (w.heap.size + 1))) := grow_drew (grow_trans hG (grow_alloc _ _ _))
            have HOD : Hid ((wr.alloc (.cells #[.int .i64 (IntKind.i64.wrap (y : Int))] 3)).drew.ownsRow wm.heap.size 3 1 (.slice vo j vc) (od.take j).length (rowI (od.take j))) := hOd
            have HNY : Hid (NumsAt (wr.alloc (.cells #[.int .i64 (IntKind.i64.wrap (y : Int))] 3)).drew (some ⟨wr.heap.size, 0, none⟩) [IntKind.i64.wrap (y : Int)]) := hNy
            have HLEN : Hid ((od.take j).length = j) := hjl
            clear hOd hNy hB hO hG hnj hjl
            go_upto_region 15 with fail
            refine wp_region_held_drew (S := fun _ => True) (by kernel_rfl) trivial (fun hHeld => ?_)
            refine wpAnyH_take (i := 0) (v := ?_) rfl (by kernel_rfl) (by kernel_rfl) (by kernel_rfl) (fun _ _ _ h => h) (Or.inl ⟨by rfl, ?_⟩) trivial ?_
            rotate_left
            · intro w hSw; go_simp; try with_reducible rfl
            try simp only [Act.put, List.setIfInBounds_toArray]
            refine wpAnyH_take (i := 2) (v := ?_) rfl (by kernel_rfl) (by kernel_rfl) (by kernel_rfl) (fun _ _ _ h => h) (Or.inl ⟨by rfl, ?_⟩) trivial ?_
            rotate_left
            · intro w hSw; go_simp; try with_reducible rfl
            try simp only [Act.put]
            refine wpAnyH_take (i := 3) (v := ?_) rfl (by kernel_rfl) (by kernel_rfl) (by kernel_rfl) (fun _ _ _ h => h) (Or.inl ⟨by rfl, ?_⟩) trivial ?_
            rotate_left
            · intro w hSw; go_simp; try with_reducible rfl
            try simp only [Act.put]
            refine wpAnyH_take (i := 4) (v := ?_) rfl (by kernel_rfl) (by kernel_rfl) (by kernel_rfl) (fun _ _ _ h => h) (Or.inl ⟨by rfl, ?_⟩) trivial ?_
            rotate_left
            · intro w hSw; go_simp; try with_reducible rfl
            try simp only [Act.put]
            refine wpAnyH_take (i := 5) (v := ?_) rfl (by kernel_rfl) (by kernel_rfl) (by kernel_rfl) (fun _ _ _ h => h) (Or.inl ⟨by rfl, ?_⟩) trivial ?_
            rotate_left
            · intro w hSw; go_simp; try with_reducible rfl
            try simp only [Act.put]
            refine wpAnyH_take (i := 6) (v := ?_) rfl (by kernel_rfl) (by kernel_rfl) (by kernel_rfl) (fun _ _ _ h => h) (Or.inl ⟨by rfl, ?_⟩) trivial ?_
            rotate_left
            · intro w hSw; go_simp; try with_reducible rfl
            try simp only [Act.put]
            refine wpAnyH_take (i := 7) (v := ?_) rfl (by kernel_rfl) (by kernel_rfl) (by kernel_rfl) (fun _ _ _ h => h) (Or.inl ⟨by rfl, ?_⟩) trivial ?_
            rotate_left
            · intro w hSw; go_simp; try with_reducible rfl
            try simp only [Act.put]
            refine wpAnyH_take (i := 8) (v := ?_) rfl (by kernel_rfl) (by kernel_rfl) (by kernel_rfl) (fun _ _ _ h => h) (Or.inl ⟨by rfl, ?_⟩) trivial ?_
            rotate_left
            · intro w hSw; go_simp; try with_reducible rfl
            try simp only [Act.put]
            refine wpAnyH_ready (rs := [1, 9]) (by kernel_rfl) (by simp) ?_
            refine AllReadyH.cons rfl (fun K hK => ?_) ?_
            · go_simp
              refine hK.out _ _ trivial (fun hHeld => ?_)
              clear hK K
              try simp only [Act.put, List.setIfInBounds_toArray, List.set_cons_zero, List.set_cons_succ]
              refine wpAnyH_ready (rs := [9]) (by kernel_rfl) (by simp) ?_
              refine AllReadyH.cons rfl (fun K hK => ?_) ?_
              · go_simp
                refine hK.out _ _ trivial (fun hHeld => ?_)
                clear hK K
                try simp only [Act.put, List.setIfInBounds_toArray, List.set_cons_zero, List.set_cons_succ]
                refine wpAnyH_ready (rs := [10]) (by kernel_rfl) (by simp) ?_
                refine AllReadyH.cons rfl (fun K hK => ?_) ?_
                · refine step_app_row (by rfl) (.tmp 70) (.tmp 78) (by rfl) wm.heap.size (.slice vo j vc) (od.take j) (by rfl) HOD.out hbs (some ⟨wr.heap.size, 0, none⟩) 1 [IntKind.i64.wrap (y : Int)] (by rfl) HNY.out (by simp; omega) ?_
                  intro v1 w1 hO1 hg1
                  obtain ⟨o1, k1, hv1⟩ := own_form hO1
                  rw [List.length_append, HLEN.out, List.length_singleton] at hv1
                  subst hv1
                  have s2 : w1.cell? ⟨w.heap.size + 1, 3, none⟩ = some (.slice vo j vc) := (HBX.out _ hg1).cell 3
                  have sf2 := (HBX.out _ hg1).free 3
                  have sl := (HBX.out _ hg1).lt
                  refine hK.out _ _ trivial (fun hHeld => ?_)
                  clear hK K
                  try simp only [Act.put, List.setIfInBounds_toArray]
                  refine wpAnyH_take (i := 11) (v := ?_) rfl (by kernel_rfl) (by kernel_rfl) (by kernel_rfl) (fun _ _ _ h => h) (Or.inl ⟨by rfl, ?_⟩) trivial ?_
                  rotate_left
                  · intro w hSw; go_simp; try with_reducible rfl
                  try simp only [Act.put]
                  refine wpAnyH_ready (rs := [12]) (by kernel_rfl) (by simp) ?_
                  refine AllReadyH.cons rfl (fun K hK => ?_) ?_
                  · go_simp
                    refine hK.out _ _ trivial (fun hHeld => ?_)
                    clear hK K
                    try simp only [Act.put, List.setIfInBounds_toArray, List.set_cons_zero, List.set_cons_succ]
                    refine wpAnyH_done (by kernel_rfl) ?_ _
                    go_wp2
                    go_roundw
                    case rel =>
                      have hO2 : (w1.setCell ⟨w.heap.size + 1, 3, none⟩ (.slice o1 (j + 1) k1)).ownsRow wm.heap.size 3 1 (.slice o1 (j + 1) k1) (od.take j ++ [IntKind.i64.wrap (y : Int)]).length (rowI (od.take j ++ [IntKind.i64.wrap (y : Int)])) := hO1.kept (grow_set _ _ _ _) (.inr fun e => by have := hO1.lt _ e; omega)
                      rw [HWY.out, ← HTK.out] at hO2
                      exact ⟨j + 1, _, by omega, by go_num, (HBX.out _ hg1).set 3 _, hO2, grow_trans (grown_over HG.out hg1 (fun k e => (HOD.out.lt k e).1)) (grow_set _ _ _ _)⟩
                    case measure => simp [intOf]; omega
                  exact AllReadyH.nil
                exact AllReadyH.nil
              exact AllReadyH.nil
            refine AllReadyH.cons rfl (fun K hK => ?_) ?_
            · go_simp
              refine hK.out _ _ trivial (fun hHeld => ?_)
              clear hK K
              try simp only [Act.put, List.setIfInBounds_toArray, List.set_cons_zero, List.set_cons_succ]
              refine wpAnyH_ready (rs := [1]) (by kernel_rfl) (by simp) ?_
              refine AllReadyH.cons rfl (fun K hK => ?_) ?_
              · go_simp
                refine hK.out _ _ trivial (fun hHeld => ?_)
                clear hK K
                try simp only [Act.put, List.setIfInBounds_toArray, List.set_cons_zero, List.set_cons_succ]
                refine wpAnyH_ready (rs := [10]) (by kernel_rfl) (by simp) ?_
                refine AllReadyH.cons rfl (fun K hK => ?_) ?_
                · refine step_app_row (by rfl) (.tmp 70) (.tmp 78) (by rfl) wm.heap.size (.slice vo j vc) (od.take j) (by rfl) HOD.out hbs (some ⟨wr.heap.size, 0, none⟩) 1 [IntKind.i64.wrap (y : Int)] (by rfl) HNY.out (by simp; omega) ?_
                  intro v1 w1 hO1 hg1
                  obtain ⟨o1, k1, hv1⟩ := own_form hO1
                  rw [List.length_append, HLEN.out, List.length_singleton] at hv1
                  subst hv1
                  have s2 : w1.cell? ⟨w.heap.size + 1, 3, none⟩ = some (.slice vo j vc) := (HBX.out _ hg1).cell 3
                  have sf2 := (HBX.out _ hg1).free 3
                  have sl := (HBX.out _ hg1).lt
                  refine hK.out _ _ trivial (fun hHeld => ?_)
                  clear hK K
                  try simp only [Act.put, List.setIfInBounds_toArray]
                  refine wpAnyH_take (i := 11) (v := ?_) rfl (by kernel_rfl) (by kernel_rfl) (by kernel_rfl) (fun _ _ _ h => h) (Or.inl ⟨by rfl, ?_⟩) trivial ?_
                  rotate_left
                  · intro w hSw; go_simp; try with_reducible rfl
                  try simp only [Act.put]
                  refine wpAnyH_ready (rs := [12]) (by kernel_rfl) (by simp) ?_
                  refine AllReadyH.cons rfl (fun K hK => ?_) ?_
                  · go_simp
                    refine hK.out _ _ trivial (fun hHeld => ?_)
                    clear hK K
                    try simp only [Act.put, List.setIfInBounds_toArray, List.set_cons_zero, List.set_cons_succ]
                    refine wpAnyH_done (by kernel_rfl) ?_ _
                    go_wp2
                    go_roundw
                    case rel =>
                      have hO2 : (w1.setCell ⟨w.heap.size + 1, 3, none⟩ (.slice o1 (j + 1) k1)).ownsRow wm.heap.size 3 1 (.slice o1 (j + 1) k1) (od.take j ++ [IntKind.i64.wrap (y : Int)]).length (rowI (od.take j ++ [IntKind.i64.wrap (y : Int)])) := hO1.kept (grow_set _ _ _ _) (.inr fun e => by have := hO1.lt _ e; omega)
                      rw [HWY.out, ← HTK.out] at hO2
                      exact ⟨j + 1, _, by omega, by go_num, (HBX.out _ hg1).set 3 _, hO2, grow_trans (grown_over HG.out hg1 (fun k e => (HOD.out.lt k e).1)) (grow_set _ _ _ _)⟩
                    case measure => simp [intOf]; omega
                  exact AllReadyH.nil
                exact AllReadyH.nil
              exact AllReadyH.nil
            exact AllReadyH.nil

          · have hlt' : ¬ (j : Int) < (k.toNat : Int) := by omega
            have hol : od.length = k.toNat := by rw [HOD0.out]; simp [numsOf]; omega
            have htk : od.take j = od := List.take_of_length_le (by omega)
            rw [htk] at hO
            obtain ⟨x2, y2, hv⟩ := own_form hO
            subst hv
            have hN2 : NumsF wr (w.heap.size + 1) x2 od := ⟨fun p e => by subst e; have := hO.lt p.block rfl; omega, fun hne => by
              obtain ⟨b, off, e, hc⟩ := own_nums hO hne
              subst e
              exact ⟨b, off, rfl, by have := (hO.lt b rfl).1; omega, hc⟩⟩
            have hN1' : NumsF wr (w.heap.size + 1) x1 nw := ⟨fun p e => ⟨(hN1.1 p e).1, Nat.lt_of_lt_of_le (hN1.1 p e).2 hG.size⟩, fun hne => by
              obtain ⟨b, off, e, hgt, hc⟩ := hN1.2 hne
              exact ⟨b, off, e, hgt, fun i x hi => hG.cell (hc i x hi) (fun e => by simp at e; omega)⟩⟩
            have hR := hR9.grown hG (by omega)
            have hX : Ext w wr := hX9.grown hG (fun k e => by cases e; omega)
            have hbd : nw.length + od.length ≤ 100 := by omega
            have HCC0 := refFault_any ep lg x1 x2 y1 y2 nw od wr hbd hN1'.at hN2.at
            have hpos := manF_cases ep lg nw od
            have hBH : Hid (Blk wr (w.heap.size + 1) #[.int .i64 ep, .int .i64 lg, .slice x1 nw.length y1, .slice x2 od.length y2] 100) := hB
            have hRH : Hid (Blk wr w.heap.size #[.int .i64 0, .int .i64 0, .slice none 0 0, .slice none 0 0] 100) := hR
            have c0 : _ = some (Value.int .i64 ep) := hB.cell 0
            have c1 : _ = some (Value.int .i64 lg) := hB.cell 1
            have c2 : _ = some (Value.slice x1 nw.length y1) := hB.cell 2
            have c3 : _ = some (Value.slice x2 od.length y2) := hB.cell 3
            have hb1' := hB.lt
            clear hB hR hR9 hX9 hN1 hB9 hO hG HOD0 HNW HOD hnl hol htk hlen hll h7 hs hp0 HIX HEP HLG
            by_cases hf : manF ep lg nw od = 0
            · rw [hf] at HCC0
              have HF : Hid (manF ep lg nw od = 0) := hf
              have HCC : Hid (Calls Try.prog 75 #[.agg #[.int .i64 ep, .int .i64 lg, .slice x1 nw.length y1, .slice x2 od.length y2]] wr fun e w' => e = .returned (.int .i64 0) ∧ Ext wr w') := HCC0
              clear HCC0 hf hpos
              go_wp2_with (go_at_call 75; refine HCC.out.mono ?_; rintro e w5 ⟨rfl, hx5⟩; clear c0 c1 c2 c3 hb1'; have hB5 := Blk.ext hx5 hBH.out; have hR5 := Blk.ext hx5 hRH.out; have c0 : _ = some (Value.int .i64 ep) := hB5.cell 0; have c1 : _ = some (Value.int .i64 lg) := hB5.cell 1; have c2 : _ = some (Value.slice x1 nw.length y1) := hB5.cell 2; have c3 : _ = some (Value.slice x2 od.length y2) := hB5.cell 3; have r0 : _ = some (Value.int .i64 0) := hR5.cell 0; have r1 : _ = some (Value.int .i64 0) := hR5.cell 1; have r2 : _ = some (Value.slice none 0 0) := hR5.cell 2; have r3 : _ = some (Value.slice none 0 0) := hR5.cell 3; have f0 := hR5.free 0; have f1 := hR5.free 1; have f2 := hR5.free 2; have f3 := hR5.free 3; have hl1 := hR5.lt; have hl2 := hB5.lt)
              have n1 := (((((NumsF.ext hx5 hN1').mono (Nat.le_succ _)).set 0 (.int .i64 ep)).set 1 (.int .i64 lg)).set 2 (.slice x1 nw.length y1)).set 3 (.slice x2 od.length y2)
              have n2 := (((((NumsF.ext hx5 hN2).mono (Nat.le_succ _)).set 0 (.int .i64 ep)).set 1 (.int .i64 lg)).set 2 (.slice x1 nw.length y1)).set 3 (.slice x2 od.length y2)
              refine bodyPost_ret (v := .tuple #[.agg #[.int .i64 ep, .int .i64 lg, .slice x1 nw.length y1, .slice x2 od.length y2], .int .i64 0]) (by simp [results, go_sem, r0, r1, r2, r3]) rfl (.inl ⟨HF.out, x1, y1, x2, y2, rfl, n1, n2, ?_⟩)
              exact Ext.four (hX.trans hx5) (Nat.le_refl _) _ _ _ _
            · have HF : Hid (¬ manF ep lg nw od = 0) := hf
              have hfp : 0 < manF ep lg nw od := by omega
              have HCC : Hid (Calls Try.prog 75 #[.agg #[.int .i64 ep, .int .i64 lg, .slice x1 nw.length y1, .slice x2 od.length y2]] wr fun e w' => e = .returned (.int .i64 (manF ep lg nw od)) ∧ Ext wr w') := HCC0
              clear HCC0 hf hpos
              obtain ⟨f, hff⟩ : ∃ f, f = manF ep lg nw od := ⟨_, rfl⟩
              rw [← hff] at HCC hfp
              clear hff
              go_wp2_with (go_at_call 75; refine HCC.out.mono ?_; rintro e w5 ⟨rfl, hx5⟩; clear c0 c1 c2 c3 hb1'; have hB5 := Blk.ext hx5 hBH.out; have hR5 := Blk.ext hx5 hRH.out; have c0 : _ = some (Value.int .i64 ep) := hB5.cell 0; have c1 : _ = some (Value.int .i64 lg) := hB5.cell 1; have c2 : _ = some (Value.slice x1 nw.length y1) := hB5.cell 2; have c3 : _ = some (Value.slice x2 od.length y2) := hB5.cell 3; have r0 : _ = some (Value.int .i64 0) := hR5.cell 0; have r1 : _ = some (Value.int .i64 0) := hR5.cell 1; have r2 : _ = some (Value.slice none 0 0) := hR5.cell 2; have r3 : _ = some (Value.slice none 0 0) := hR5.cell 3; have f0 := hR5.free 0; have f1 := hR5.free 1; have f2 := hR5.free 2; have f3 := hR5.free 3; have hl1 := hR5.lt; have hl2 := hB5.lt)
              refine bodyPost_ret (v := .tuple #[zeroV, .int .i64 4]) (by simp [results, go_sem, r0, r1, r2, r3, zeroV]) rfl (.inr ⟨HF.out, rfl, ?_⟩)
              exact Ext.four (hX.trans hx5) (Nat.le_refl _) _ _ _ _
theorem ofM_any (s : ByteArray) (w : World) (hs : s.size ≤ 100) :
    Calls Try.prog 73 #[.string s] w fun e w' => OfEnd w w' e (parseB s.data.toList) := by
  have hl : s.data.toList.length = s.size := (Lib.size_eq s).symm
  by_cases h7 : 7 ≤ s.size
  · by_cases h0 : s[0].toNat = 77
    · by_cases hf : 7 + s[5].toNat + s[6].toNat ≤ s.size
      · have h0' : s[0] = 77 := by
          apply UInt8.toNat_inj.1; rw [h0]; rfl
        have hr : rawM s.data.toList = ⟨(s[1].toNat : Int) + 256 * (s[2].toNat : Int) + 65536 * (s[3].toNat : Int), (s[4].toNat : Int), numsOf ((s.data.toList.drop 7).take s[5].toNat), numsOf ((s.data.toList.drop (7 + s[5].toNat)).take s[6].toNat)⟩ := by
          unfold rawM
          rw [byteL_get s 1 (by omega), byteL_get s 2 (by omega), byteL_get s 3 (by omega), byteL_get s 4 (by omega), byteL_get s 5 (by omega), byteL_get s 6 (by omega)]
          rfl
        refine (ofM_in s w s[1] s[2] s[3] s[4] s[5] s[6] hs h7 h0' rfl rfl rfl rfl rfl rfl hf (rawM s.data.toList).ep (rawM s.data.toList).lg (rawM s.data.toList).nw (rawM s.data.toList).od (by rw [hr]; rfl) (by rw [hr]) (by rw [hr]) (by rw [hr])).mono ?_
        have hc : 7 ≤ s.data.toList.length ∧ byteL s.data.toList 0 = 77 ∧ 7 + byteL s.data.toList 5 + byteL s.data.toList 6 ≤ s.data.toList.length := by
          rw [hl, byteL_get s 0 (by omega), byteL_get s 5 (by omega), byteL_get s 6 (by omega)]
          exact ⟨h7, h0, hf⟩
        rintro e w' (⟨h, a1, c1, a2, c2, rfl, q1, q2, hx⟩ | ⟨h, rfl, hx⟩)
        · refine .inl ⟨rawM s.data.toList, _, ?_, rfl, ⟨a1, c1, a2, c2, rfl, q1, q2⟩, hx⟩
          unfold parseB; rw [if_pos ⟨hc.1, hc.2.1, hc.2.2, h⟩]
        · refine .inr ⟨?_, rfl, hx⟩
          unfold parseB; rw [if_neg (fun k => h k.2.2.2)]
      · refine (ofM_far s w h7 (by omega) h0 hf).mono ?_
        rintro e w' ⟨rfl, hx⟩
        refine .inr ⟨?_, rfl, hx⟩
        unfold parseB; rw [if_neg (fun k => hf (by have := k.2.2.1; rw [hl, byteL_get s 5 (by omega), byteL_get s 6 (by omega)] at this; exact this))]
    · refine (ofM_mark s w h7 h0).mono ?_
      rintro e w' ⟨rfl, hx⟩
      refine .inr ⟨?_, rfl, hx⟩
      unfold parseB; rw [if_neg (fun k => h0 (by have := k.2.1; rw [byteL_get s 0 (by omega)] at this; exact this))]
  · refine (ofM_short s w (by omega)).mono ?_
    rintro e w' ⟨rfl, hx⟩
    refine .inr ⟨?_, rfl, hx⟩
    unfold parseB; rw [if_neg (fun k => h7 (by have := k.1; omega))]
end Go.Proofs.Ytpldeejagomfjaa
