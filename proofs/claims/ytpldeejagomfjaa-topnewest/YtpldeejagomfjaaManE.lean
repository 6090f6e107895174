
/- Manifests: Parse. -/
import Derived.Test.YtpldeejagomfjaaManD
import Derived.Deep.DeepCutAuto
import Derived.Deep.Light
import Derived.Deep.DrawnRows
import Derived.Laws.BitsLemmas
namespace Go.Proofs.Ytpldeejagomfjaa
open Go.RowKit Go.WideShapes
attribute [local go_sem ↓] Go.wp_at_zero Go.wp_at_succ
theorem Try.results72 : Try.f72.results = #[.cell 2 100, .tmp 3] := by kernel_rfl
theorem bcellM {W w1 : World} (hb : Below W.heap.size W w1) : (∀ b o, b < W.heap.size → w1.cell? ⟨b, o, none⟩ = W.cell? ⟨b, o, none⟩) ∧ (∀ b o, b < W.heap.size → w1.frozen? ⟨b, o, none⟩ = W.frozen? ⟨b, o, none⟩) :=
  ⟨fun b o h => hb.cell (p := ⟨b, o, none⟩) h, fun b o h => hb.frozen (p := ⟨b, o, none⟩) h⟩
theorem Blk.put4 {w : World} {b : Nat} {x y z u x' y' z' u' : Value} {t : TypeId} (h : Blk w b #[x, y, z, u] t) : Blk ((((w.setCell ⟨b, 0, none⟩ x').setCell ⟨b, 1, none⟩ y').setCell ⟨b, 2, none⟩ z').setCell ⟨b, 3, none⟩ u') b #[x', y', z', u'] t :=
  (((h.set 0 x').set 1 y').set 2 z').set 3 u'
theorem size_allocM (w : World) (o : Obj) : (w.alloc o).heap.size = w.heap.size + 1 := by
  show (Array.push _ _).size = _
  exact Array.size_push _
theorem size_drewM (w : World) : w.drew.heap.size = w.heap.size := rfl
def NumB (w : World) (lo hi : Nat) (ao : Option Addr) (l : List Int) : Prop :=
  (∀ p, ao = some p → lo ≤ p.block ∧ p.block < hi) ∧ hi ≤ w.heap.size ∧ (l ≠ [] → ∃ b off, ao = some ⟨b, off, none⟩ ∧ lo ≤ b ∧ b < hi ∧ ∀ i x, l[i]? = some x → w.cell? ⟨b, off + i, none⟩ = some (.int .i64 x))
theorem NumB.at {w : World} {lo hi : Nat} {ao : Option Addr} {l : List Int} (h : NumB w lo hi ao l) : NumsAt w ao l := fun hne => by
  obtain ⟨b, off, e, _, _, hc⟩ := h.2.2 hne
  exact ⟨b, off, e, hc⟩
theorem NumB.ext {w w' : World} {lo hi : Nat} {ao : Option Addr} {l : List Int} (hx : Ext w w') (h : NumB w lo hi ao l) : NumB w' lo hi ao l := ⟨h.1, Nat.le_trans h.2.1 hx.size, fun hne => by
  obtain ⟨b, off, e, h1, h2, hc⟩ := h.2.2 hne
  exact ⟨b, off, e, h1, h2, fun i x hi => hx.cell (hc i x hi)⟩⟩
theorem NumB.set {w : World} {lo hi : Nat} {ao : Option Addr} {l : List Int} {p : Addr} (h : NumB w lo hi ao l) (hp : p.block < lo ∨ hi ≤ p.block) (u : Value) : NumB (w.setCell p u) lo hi ao l := ⟨h.1, by rw [World.size_setCell]; exact h.2.1, fun hne => by
  obtain ⟨b, off, e, h1, h2, hc⟩ := h.2.2 hne
  refine ⟨b, off, e, h1, h2, fun i x hi => ?_⟩
  have hb : b ≠ p.block := by omega
  have := hc i x hi
  unfold World.cell? at this ⊢
  rw [Below.heap_setCell _ _ _ _ hb]
  exact this⟩
structure NumR (w w' : World) (ao : Option Addr) (n : Nat) (l : List Int) : Prop where
  ext : Ext w w'
  len : n = l.length
  nums : NumB w' w.heap.size w'.heap.size ao l
/-- Numbers that lie in a block behind block g. -/
def NumsF (w : World) (g : Nat) (ao : Option Addr) (l : List Int) : Prop :=
  (∀ p, ao = some p → g < p.block ∧ p.block < w.heap.size) ∧ (l ≠ [] → ∃ b off, ao = some ⟨b, off, none⟩ ∧ g < b ∧ ∀ i x, l[i]? = some x → w.cell? ⟨b, off + i, none⟩ = some (.int .i64 x))
theorem NumsF.at {w : World} {g : Nat} {ao : Option Addr} {l : List Int} (h : NumsF w g ao l) : NumsAt w ao l := fun hne => by
  obtain ⟨b, off, e, _, hc⟩ := h.2 hne
  exact ⟨b, off, e, hc⟩
theorem NumsF.ext {w w' : World} {g : Nat} {ao : Option Addr} {l : List Int} (hx : Ext w w') (h : NumsF w g ao l) : NumsF w' g ao l := ⟨fun p e => ⟨(h.1 p e).1, Nat.lt_of_lt_of_le (h.1 p e).2 hx.size⟩, fun hne => by
  obtain ⟨b, off, e, h1, hc⟩ := h.2 hne
  exact ⟨b, off, e, h1, fun i x hi => hx.cell (hc i x hi)⟩⟩
theorem NumsF.set {w : World} {g : Nat} {ao : Option Addr} {l : List Int} (h : NumsF w g ao l) (i : Nat) (v : Value) : NumsF (w.setCell ⟨g, i, none⟩ v) g ao l := ⟨fun p e => by rw [World.size_setCell]; exact h.1 p e, fun hne => by
  obtain ⟨b, off, e, h1, hc⟩ := h.2 hne
  exact ⟨b, off, e, h1, fun j x hj => by rw [cell_away w (show b ≠ g by omega)]; exact hc j x hj⟩⟩
theorem NumsF.mono {w : World} {g g' : Nat} {ao : Option Addr} {l : List Int} (h : NumsF w g ao l) (hg : g' ≤ g) : NumsF w g' ao l := ⟨fun p e => ⟨by have := (h.1 p e).1; omega, (h.1 p e).2⟩, fun hne => by
  obtain ⟨b, off, e, h1, hc⟩ := h.2 hne
  exact ⟨b, off, e, by omega, hc⟩⟩
theorem NumsF.nil (w : World) (g : Nat) : NumsF w g none [] := ⟨fun p e => by (cases e), fun h => absurd rfl h⟩
theorem NumR.go {w w' wx : World} {g : Nat} {ao : Option Addr} {n : Nat} {l : List Int} (_ : NumR w w' ao n l) (k : NumB wx w.heap.size w'.heap.size ao l) (hg : g < w.heap.size) : NumsF wx g ao l := ⟨fun p e => by have := k.1 p e; have := k.2.1; omega, fun hne => by
  obtain ⟨b, off, e, h1, _, hc⟩ := k.2.2 hne
  exact ⟨b, off, e, by omega, hc⟩⟩
theorem numbers_let (s : ByteArray) (w : World) (hs : s.size ≤ 10000) :
    Calls Try.prog 100 #[.string s] w fun e w' => ∃ ao n cap, e = .returned (.slice ao n cap) ∧ NumR w w' ao n (numsOf s.data.toList) := by
  refine (numbers_any s w hs).mono ?_
  rintro e w' ⟨v, rfl, hI⟩
  obtain ⟨ao, cap, hv, ha⟩ := hI.at
  refine ⟨ao, _, cap, by rw [hv], hI.ext, rfl, fun p e => ?_, Nat.le_refl _, fun hne => ?_⟩
  · have := hI.own.lt p.block (by rw [hv, e]; rfl)
    exact this
  obtain ⟨b, off, e, hc⟩ := ha hne
  obtain ⟨hlen, hcase⟩ := hI.own
  refine ⟨b, off, e, ?_, ?_, hc⟩
  · rcases hcase with ⟨rfl, h0⟩ | ⟨g, cap, cur, rfl, hg, hh, _, _, _, htake⟩
    · rw [e] at hv; cases hv
    · rw [e] at hv; cases hv; exact hg
  · rcases hcase with ⟨rfl, h0⟩ | ⟨g, cap, cur, rfl, hg, hh, _, _, _, htake⟩
    · rw [e] at hv; cases hv
    · rw [e] at hv; cases hv
      rcases Nat.lt_or_ge b w'.heap.size with h' | h'
      · exact h'
      · rw [Array.getElem?_eq_none h'] at hh; cases hh
theorem wrap_small (n : Int) (h0 : 0 ≤ n) (h1 : n < 2 ^ 62) : IntKind.i64.wrap n = n := by rw [IntKind.wrap_i64]; omega
/-- Three bytes of an epoch. -/
theorem ep_sum (x1 x2 x3 : Int) (g1 : 0 ≤ x1) (l1 : x1 < 256) (g2 : 0 ≤ x2) (l2 : x2 < 256) (g3 : 0 ≤ x3) (l3 : x3 < 256) :
    bits .or .i64 (bits .or .i64 (IntKind.i64.wrap x1) (IntKind.i64.wrap (IntKind.i64.wrap x2 * 256))) (IntKind.i64.wrap (IntKind.i64.wrap x3 * 65536)) = x1 + 256 * x2 + 65536 * x3 := by
  have or_comm' : ∀ a b : Nat, a < 2 ^ 62 → b < 2 ^ 62 → bits .or .i64 (a : Int) (b : Int) = bits .or .i64 (b : Int) (a : Int) := fun a b ha hb => by
    rw [(bits_nat .i64 62 (by decide) (fun n h0 h1 => wrap_small n h0 h1) a b ha hb).2, (bits_nat .i64 62 (by decide) (fun n h0 h1 => wrap_small n h0 h1) b a hb ha).2, Nat.or_comm]
  obtain ⟨a, rfl⟩ := Int.eq_ofNat_of_zero_le g1
  obtain ⟨b, rfl⟩ := Int.eq_ofNat_of_zero_le g2
  obtain ⟨c, rfl⟩ := Int.eq_ofNat_of_zero_le g3
  have J := fun i => bits_join .i64 62 (by decide) (fun n h0 h1 => wrap_small n h0 h1) i
  rw [wrap_small (a : Int) (by omega) (by omega), wrap_small (b : Int) (by omega) (by omega), wrap_small (c : Int) (by omega) (by omega), wrap_small ((b : Int) * 256) (by omega) (by omega), wrap_small ((c : Int) * 65536) (by omega) (by omega)]
  have e1 : bits .or .i64 (a : Int) ((b : Int) * 256) = (b : Int) * 256 + a := by
    have := or_comm' a (b * 256) (by omega) (by omega)
    rw [show ((b * 256 : Nat) : Int) = (b : Int) * 256 by omega] at this
    rw [this]
    exact J 8 ((b : Int) * 256) a (by omega) (by omega) (by omega) (by omega) (by omega) (by omega)
  rw [e1]
  have := or_comm' (b * 256 + a) (c * 65536) (by omega) (by omega)
  rw [show ((b * 256 + a : Nat) : Int) = (b : Int) * 256 + a by omega, show ((c * 65536 : Nat) : Int) = (c : Int) * 65536 by omega] at this
  rw [this, J 16 ((c : Int) * 65536) ((b : Int) * 256 + a) (by omega) (by omega) (by omega) (by omega) (by omega) (by omega)]
  omega
theorem numsOf_length (l : List UInt8) : (numsOf l).length = l.length := by simp [numsOf]
/-- What Parse gives, of a text that is long enough. -/
def ParseM (w w' : World) (e : Ending) (ep lg : Int) (nw od : List Int) : Prop :=
  (manF ep lg nw od = 0 ∧ ∃ a1 c1 a2 c2, e = .returned (.tuple #[.agg #[.int .i64 ep, .int .i64 lg, .slice a1 nw.length c1, .slice a2 od.length c2], .nilIface]) ∧ NumsF w' w.heap.size a1 nw ∧ NumsF w' w.heap.size a2 od ∧ Ext w w') ∨
  (¬ manF ep lg nw od = 0 ∧ e = .returned (.tuple #[.agg #[.int .i64 0, .int .i64 0, .slice none 0 0, .slice none 0 0], .iface 123 (.int .i64 4)]) ∧ Ext w w')
set_option maxRecDepth 20000 in
set_option maxHeartbeats 1000000 in
theorem parseM_in (s : ByteArray) (w : World) (b1 b2 b3 b4 n k : UInt8) (hs : s.size ≤ 100) (h7 : 7 ≤ s.size) (h0 : s[0] = 77) (e1 : s[1] = b1) (e2 : s[2] = b2) (e3 : s[3] = b3) (e4 : s[4] = b4) (e5 : s[5] = n) (e6 : s[6] = k) (hlen : 7 + n.toNat + k.toNat ≤ s.size) :
    Calls Try.prog 72 #[.string s] w fun e w' => ParseM w w' e ((b1.toNat : Int) + 256 * (b2.toNat : Int) + 65536 * (b3.toNat : Int)) (b4.toNat : Int) (numsOf (s.extract 7 (7 + n.toNat)).data.toList) (numsOf (s.extract (7 + n.toNat) (7 + n.toNat + k.toNat)).data.toList) := by
  have hb1 : b1.toNat < 256 := b1.toNat_lt
  have hb2 : b2.toNat < 256 := b2.toNat_lt
  have hb3 : b3.toNat < 256 := b3.toNat_lt
  have hb4 : b4.toNat < 256 := b4.toNat_lt
  have hbn : n.toNat < 256 := n.toNat_lt
  have hbk : k.toNat < 256 := k.toNat_lt
  have ix : ∀ (i : Nat) (y : UInt8), ∀ hi : i < s.size, s[i] = y → ∀ W : World, (Instr.index 9 (.string s) (.int .i64 (i : Int))).run Try.prog W = .ok (.int .u8 (y.toNat : Int)) W := fun i y hi hy W => by
    subst hy; simp [go_sem, Try.underlying9, hi]
  have i0 := ix 0 77 (by omega) h0
  have i1 := ix 1 b1 (by omega) e1
  have i2 := ix 2 b2 (by omega) e2
  have i3 := ix 3 b3 (by omega) e3
  have i4 := ix 4 b4 (by omega) e4
  have i5 := ix 5 n (by omega) e5
  have i6 := ix 6 k (by omega) e6
  simp only [Int.cast_ofNat_Int] at i0 i1 i2 i3 i4 i5 i6
  have sl1 : ∀ W : World, (Instr.slice 9 (.string s) (some (.int .i64 7)) (some (.int .i64 (7 + (n.toNat : Int)))) none).run Try.prog W = .ok (.string (s.extract 7 (7 + n.toNat))) W := fun W => by
    have := run_slice_string (P := Try.prog) (w := W) 9 s .i64 .i64 7 (7 + (n.toNat : Int)) Try.underlying9 (by omega) (by omega) (by omega)
    rw [this, show (7 : Int).toNat = 7 from rfl, show (7 + (n.toNat : Int)).toNat = 7 + n.toNat by omega]
  have sl2 : ∀ W : World, (Instr.slice 9 (.string s) (some (.int .i64 (7 + (n.toNat : Int)))) (some (.int .i64 (7 + (n.toNat : Int) + (k.toNat : Int)))) none).run Try.prog W = .ok (.string (s.extract (7 + n.toNat) (7 + n.toNat + k.toNat))) W := fun W => by
    have := run_slice_string (P := Try.prog) (w := W) 9 s .i64 .i64 (7 + (n.toNat : Int)) (7 + (n.toNat : Int) + (k.toNat : Int)) Try.underlying9 (by omega) (by omega) (by omega)
    rw [this, show (7 + (n.toNat : Int)).toNat = 7 + n.toNat by omega, show (7 + (n.toNat : Int) + (k.toNat : Int)).toNat = 7 + n.toNat + k.toNat by omega]
  have hN : (s.extract 7 (7 + n.toNat)).size ≤ 10000 := by simp; omega
  have hO : (s.extract (7 + n.toNat) (7 + n.toNat + k.toNat)).size ≤ 10000 := by simp; omega
  have t7 : ¬ ((s.size : Int) < 7) := by omega
  have tl : ¬ ((s.size : Int) < 7 + (n.toNat : Int) + (k.toNat : Int)) := by omega
  have hp0 : 0 < s.size := by omega
  have hLL : (numsOf (s.extract 7 (7 + n.toNat)).data.toList).length + (numsOf (s.extract (7 + n.toNat) (7 + n.toNat + k.toNat)).data.toList).length ≤ 100 := by
    rw [numsOf_length, numsOf_length, ← Lib.size_eq, ← Lib.size_eq]; simp; omega
  clear h0 e1 e2 e3 e4 e5 e6 ix
  generalize s.extract 7 (7 + n.toNat) = N at *
  generalize s.extract (7 + n.toNat) (7 + n.toNat + k.toNat) = O at *
  have CN := fun W => numbers_let N W hN
  have CO := fun W => numbers_let O W hO
  generalize numsOf N.data.toList = LN at *
  generalize numsOf O.data.toList = LO at *
  simp only [show ((77 : UInt8).toNat : Int) = 77 from rfl] at i0
  clear h7 hlen hs hb1 hb2 hb3 hb4 hN hO
  have g1 : (0 : Int) ≤ b1.toNat ∧ (b1.toNat : Int) < 256 := ⟨by omega, by have := b1.toNat_lt; omega⟩
  have g2 : (0 : Int) ≤ b2.toNat ∧ (b2.toNat : Int) < 256 := ⟨by omega, by have := b2.toNat_lt; omega⟩
  have g3 : (0 : Int) ≤ b3.toNat ∧ (b3.toNat : Int) < 256 := ⟨by omega, by have := b3.toNat_lt; omega⟩
  have g4 : (0 : Int) ≤ b4.toNat ∧ (b4.toNat : Int) < 256 := ⟨by omega, by have := b4.toNat_lt; omega⟩
  generalize (b1.toNat : Int) = x1 at *
  generalize (b2.toNat : Int) = x2 at *
  generalize (b3.toNat : Int) = x3 at *
  generalize (b4.toNat : Int) = x4 at *
  obtain ⟨g1, l1⟩ := g1
  obtain ⟨g2, l2⟩ := g2
  obtain ⟨g3, l3⟩ := g3
  obtain ⟨g4, l4⟩ := g4
  go_enter Try.func72, Try.ntmps72
  go_upto_region 7 with fail
  go_cut [6] (fun s6 wx => ∃ blk a1 n1 c1 a2 n2 c2, s6 = .pointer (some ⟨blk, 0, none⟩) ∧ Blk wx blk #[.int .i64 (bits .or .i64 (bits .or .i64 (IntKind.i64.wrap x1) (IntKind.i64.wrap (IntKind.i64.wrap x2 * 256))) (IntKind.i64.wrap (IntKind.i64.wrap x3 * 65536))), .int .i64 (IntKind.i64.wrap x4), .slice a1 n1 c1, .slice a2 n2 c2] 100 ∧ Blk wx w.heap.size #[.int .i64 0, .int .i64 0, .slice none 0 0, .slice none 0 0] 100 ∧ blk ≠ w.heap.size ∧ Ext w wx ∧ n1 = LN.length ∧ n2 = LO.length ∧ NumsF wx w.heap.size a1 LN ∧ NumsF wx w.heap.size a2 LO)
  case first =>
    refine wp_region_held_drew (S := fun _ => True) (by kernel_rfl) trivial (fun hHeld => ?_)
    refine wpAnyH_take (i := 0) (v := ?_) rfl (by kernel_rfl) (by kernel_rfl) (by kernel_rfl) (fun _ _ _ h => h) (Or.inl ⟨by rfl, ?_⟩) trivial ?_
    rotate_left
    · intro w hSw; go_simp; try with_reducible rfl
    try simp only [Act.put, List.setIfInBounds_toArray]
    refine wpAnyH_take (i := 3) (v := ?_) rfl (by kernel_rfl) (by kernel_rfl) (by kernel_rfl) (fun _ _ _ h => h) (Or.inl ⟨by rfl, ?_⟩) trivial ?_
    rotate_left
    · intro w hSw; go_simp; try with_reducible rfl
    try simp only [Act.put]
    refine wpAnyH_take (i := 8) (v := ?_) rfl (by kernel_rfl) (by kernel_rfl) (by kernel_rfl) (fun _ _ _ h => h) (Or.inl ⟨by rfl, ?_⟩) trivial ?_
    rotate_left
    · intro w hSw; go_simp; try with_reducible rfl
    try simp only [Act.put]
    refine wpAnyH_take (i := 13) (v := ?_) rfl (by kernel_rfl) (by kernel_rfl) (by kernel_rfl) (fun _ _ _ h => h) (Or.inl ⟨by rfl, ?_⟩) trivial ?_
    rotate_left
    · intro w hSw; go_simp; try with_reducible rfl
    try simp only [Act.put]
    refine wpAnyH_take (i := 16) (v := ?_) rfl (by kernel_rfl) (by kernel_rfl) (by kernel_rfl) (fun _ _ _ h => h) (Or.inl ⟨by rfl, ?_⟩) trivial ?_
    rotate_left
    · intro w hSw; go_simp; try with_reducible rfl
    try simp only [Act.put]
    refine wpAnyH_take (i := 17) (v := ?_) rfl (by kernel_rfl) (by kernel_rfl) (by kernel_rfl) (fun _ _ _ h => h) (Or.inl ⟨by rfl, ?_⟩) trivial ?_
    rotate_left
    · intro w hSw; go_simp; try with_reducible rfl
    try simp only [Act.put]
    refine wpAnyH_take (i := 18) (v := ?_) rfl (by kernel_rfl) (by kernel_rfl) (by kernel_rfl) (fun _ _ _ h => h) (Or.inl ⟨by rfl, ?_⟩) trivial ?_
    rotate_left
    · intro w hSw; go_simp; try with_reducible rfl
    try simp only [Act.put]
    refine wpAnyH_take (i := 20) (v := ?_) rfl (by kernel_rfl) (by kernel_rfl) (by kernel_rfl) (fun _ _ _ h => h) (Or.inl ⟨by rfl, ?_⟩) trivial ?_
    rotate_left
    · intro w hSw; go_simp; try with_reducible rfl
    try simp only [Act.put]
    refine wpAnyH_take (i := 21) (v := ?_) rfl (by kernel_rfl) (by kernel_rfl) (by kernel_rfl) (fun _ _ _ h => h) (Or.inl ⟨by rfl, ?_⟩) trivial ?_
    rotate_left
    · intro w hSw; go_simp; try with_reducible rfl
    try simp only [Act.put]
    refine wpAnyH_take (i := 22) (v := ?_) rfl (by kernel_rfl) (by kernel_rfl) (by kernel_rfl) (fun _ _ _ h => h) (Or.inl ⟨by rfl, ?_⟩) trivial ?_
    rotate_left
    · intro w hSw; go_simp; try with_reducible rfl
    try simp only [Act.put]
    refine wpAnyH_take (i := 23) (v := ?_) rfl (by kernel_rfl) (by kernel_rfl) (by kernel_rfl) (fun _ _ _ h => h) (Or.inl ⟨by rfl, ?_⟩) trivial ?_
    rotate_left
    · intro w hSw; go_simp; try with_reducible rfl
    try simp only [Act.put]
    refine wpAnyH_take (i := 1) (v := ?_) rfl (by kernel_rfl) (by kernel_rfl) (by kernel_rfl) (fun _ _ _ h => h) (Or.inl ⟨by rfl, ?_⟩) trivial ?_
    rotate_left
    · intro w hSw; go_simp; try with_reducible rfl
    try simp only [Act.put]
    refine wpAnyH_take (i := 4) (v := ?_) rfl (by kernel_rfl) (by kernel_rfl) (by kernel_rfl) (fun _ _ _ h => h) (Or.inl ⟨by rfl, ?_⟩) trivial ?_
    rotate_left
    · intro w hSw; go_simp; try with_reducible rfl
    try simp only [Act.put]
    refine wpAnyH_take (i := 9) (v := ?_) rfl (by kernel_rfl) (by kernel_rfl) (by kernel_rfl) (fun _ _ _ h => h) (Or.inl ⟨by rfl, ?_⟩) trivial ?_
    rotate_left
    · intro w hSw; go_simp; try with_reducible rfl
    try simp only [Act.put]
    refine wpAnyH_take (i := 14) (v := ?_) rfl (by kernel_rfl) (by kernel_rfl) (by kernel_rfl) (fun _ _ _ h => h) (Or.inl ⟨by rfl, ?_⟩) trivial ?_
    rotate_left
    · intro w hSw; go_simp; try with_reducible rfl
    try simp only [Act.put]
    refine wpAnyH_take (i := 2) (v := ?_) rfl (by kernel_rfl) (by kernel_rfl) (by kernel_rfl) (fun _ _ _ h => h) (Or.inl ⟨by rfl, ?_⟩) trivial ?_
    rotate_left
    · intro w hSw; go_simp; try with_reducible rfl
    try simp only [Act.put]
    refine wpAnyH_take (i := 5) (v := ?_) rfl (by kernel_rfl) (by kernel_rfl) (by kernel_rfl) (fun _ _ _ h => h) (Or.inl ⟨by rfl, ?_⟩) trivial ?_
    rotate_left
    · intro w hSw; go_simp; try with_reducible rfl
    try simp only [Act.put]
    refine wpAnyH_take (i := 6) (v := ?_) rfl (by kernel_rfl) (by kernel_rfl) (by kernel_rfl) (fun _ _ _ h => h) (Or.inl ⟨by rfl, ?_⟩) trivial ?_
    rotate_left
    · intro w hSw; go_simp; try with_reducible rfl
    try simp only [Act.put]
    refine wpAnyH_take (i := 7) (v := ?_) rfl (by kernel_rfl) (by kernel_rfl) (by kernel_rfl) (fun _ _ _ h => h) (Or.inl ⟨by rfl, ?_⟩) trivial ?_
    rotate_left
    · intro w hSw; go_simp; try with_reducible rfl
    try simp only [Act.put]
    refine wpAnyH_take (i := 10) (v := ?_) rfl (by kernel_rfl) (by kernel_rfl) (by kernel_rfl) (fun _ _ _ h => h) (Or.inl ⟨by rfl, ?_⟩) trivial ?_
    rotate_left
    · intro w hSw; go_simp; try with_reducible rfl
    try simp only [Act.put]
    refine wpAnyH_take (i := 11) (v := ?_) rfl (by kernel_rfl) (by kernel_rfl) (by kernel_rfl) (fun _ _ _ h => h) (Or.inl ⟨by rfl, ?_⟩) trivial ?_
    rotate_left
    · intro w hSw; go_simp; try with_reducible rfl
    try simp only [Act.put]
    refine wpAnyH_take (i := 12) (v := ?_) rfl (by kernel_rfl) (by kernel_rfl) (by kernel_rfl) (fun _ _ _ h => h) (Or.inl ⟨by rfl, ?_⟩) trivial ?_
    rotate_left
    · intro w hSw; go_simp; try with_reducible rfl
    try simp only [Act.put]
    refine wpAnyH_take (i := 15) (v := ?_) rfl (by kernel_rfl) (by kernel_rfl) (by kernel_rfl) (fun _ _ _ h => h) (Or.inl ⟨by rfl, ?_⟩) trivial ?_
    rotate_left
    · intro w hSw; go_simp; try with_reducible rfl
    try simp only [Act.put]
    refine wpAnyH_ready (rs := [19, 26]) (by kernel_rfl) (by simp) ?_
    refine AllReadyH.cons rfl (fun K hK => ?_) ?_
    · go_simp
      refine (CN _).mono ?_
      rintro e w2 ⟨a1, n1, c1, rfl, ha2⟩
      have hsz := fun k (h : k < _) => Nat.lt_of_lt_of_le h ha2.ext.size
      obtain ⟨hcc, hff⟩ := bcellM ha2.ext.below
      go_wp2_with fail
      refine hK.out _ _ trivial (fun hHeld => ?_)
      clear hK K
      try simp only [Act.put, List.setIfInBounds_toArray, List.set_cons_zero, List.set_cons_succ]
      refine wpAnyH_ready (rs := [24, 26]) (by kernel_rfl) (by simp) ?_
      refine AllReadyH.cons rfl (fun K hK => ?_) ?_
      · go_simp
        refine (CO _).mono ?_
        rintro e w3 ⟨a2, n2, c2, rfl, ha3⟩
        have hsz2 := fun k (h : k < _) => Nat.lt_of_lt_of_le h ha3.ext.size
        obtain ⟨hcc2, hff2⟩ := bcellM ha3.ext.below
        go_wp2_with fail
        refine hK.out _ _ trivial (fun hHeld => ?_)
        clear hK K
        try simp only [Act.put, List.setIfInBounds_toArray, List.set_cons_zero, List.set_cons_succ]
        refine wpAnyH_take (i := 25) (v := ?_) rfl (by kernel_rfl) (by kernel_rfl) (by kernel_rfl) (fun _ _ _ h => h) (Or.inl ⟨by rfl, ?_⟩) trivial ?_
        rotate_left
        · intro w hSw; go_simp; try with_reducible rfl
        try simp only [Act.put, List.setIfInBounds_toArray]
        refine wpAnyH_ready (rs := [26]) (by kernel_rfl) (by simp) ?_
        refine AllReadyH.cons rfl (fun K hK => ?_) ?_
        · go_simp
          refine hK.out _ _ trivial (fun hHeld => ?_)
          clear hK K
          try simp only [Act.put, List.setIfInBounds_toArray, List.set_cons_zero, List.set_cons_succ]
          refine wpAnyH_ready (rs := [27]) (by kernel_rfl) (by simp) ?_
          refine AllReadyH.cons rfl (fun K hK => ?_) ?_
          · go_simp
            refine hK.out _ _ trivial (fun hHeld => ?_)
            clear hK K
            try simp only [Act.put, List.setIfInBounds_toArray, List.set_cons_zero, List.set_cons_succ]
            refine wpAnyH_done (by kernel_rfl) ?_ _
            go_wp2_with fail
            go_meet
            refine ⟨_, a1, n1, c1, a2, n2, c2, rfl, ?_, ?_, Ne.symm ?_, ?_, ha2.len, ha3.len, ha2.go ?_ ?_, ha3.go ?_ ?_⟩
            all_goals go_light
            all_goals clear hcc hff hsz hcc2 hff2 hsz2 CN CO sl1 sl2 i0 i1 i2 i3 i4 i5 i6
            all_goals have hx2 := ha2.ext
            all_goals have hx3 := ha3.ext
            all_goals (repeat (first | with_reducible exact ha2.nums | with_reducible exact ha3.nums | with_reducible refine NumB.set ?_ ?_ _ | with_reducible refine NumB.ext hx3 ?_ | with_reducible refine NumB.ext (Ext.alloc (Ext.refl _) _) ?_ | with_reducible refine NumB.ext (Ext.drew (Ext.refl _)) ?_ | exact Or.inr (Nat.le_refl _) | (refine Or.inl ?_; have hq := hx2.size; simp only [size_allocM, size_drewM] at hq ⊢; omega) | (show (_ : Nat) < _; have hq := hx2.size; simp only [size_allocM, size_drewM] at hq ⊢; omega) | with_reducible exact Blk.new _ _ _ | with_reducible exact Ext.refl _ | with_reducible refine Blk.drew ?_ | with_reducible refine Ext.drew ?_ | with_reducible refine Blk.put4 (x := .int .i64 0) (y := .int .i64 0) (z := .slice none 0 0) (u := .slice none 0 0) ?_ | with_reducible refine Blk.other ?_ ?_ _ | with_reducible refine Ext.set ?_ ?_ _ | (with_reducible refine Blk.new' _ _ _ ?_; simp; done) | with_reducible refine Blk.alloc ?_ _ | with_reducible refine Ext.alloc ?_ _ | with_reducible refine Blk.ext hx3 ?_ | with_reducible refine Blk.ext hx2 ?_ | with_reducible refine Ext.trans ?_ hx3 | with_reducible refine Ext.trans ?_ hx2 | (show (_ : Nat) ≠ _; (try dsimp only); omega) | (show (_ : Nat) ≤ _; (try dsimp only); omega) | refine (Blk.ne_new (cs := #[.int .i64 0, .int .i64 0, .slice none 0 0, .slice none 0 0]) (t := 100) ?_) | refine Ext.size (a := w) ?_))
          exact AllReadyH.nil
        exact AllReadyH.nil
      refine AllReadyH.cons rfl (fun K hK => ?_) ?_
      · go_simp
        refine hK.out _ _ trivial (fun hHeld => ?_)
        clear hK K
        try simp only [Act.put, List.setIfInBounds_toArray, List.set_cons_zero, List.set_cons_succ]
        refine wpAnyH_ready (rs := [24]) (by kernel_rfl) (by simp) ?_
        refine AllReadyH.cons rfl (fun K hK => ?_) ?_
        · go_simp
          refine (CO _).mono ?_
          rintro e w3 ⟨a2, n2, c2, rfl, ha3⟩
          have hsz2 := fun k (h : k < _) => Nat.lt_of_lt_of_le h ha3.ext.size
          obtain ⟨hcc2, hff2⟩ := bcellM ha3.ext.below
          go_wp2_with fail
          refine hK.out _ _ trivial (fun hHeld => ?_)
          clear hK K
          try simp only [Act.put, List.setIfInBounds_toArray, List.set_cons_zero, List.set_cons_succ]
          refine wpAnyH_take (i := 25) (v := ?_) rfl (by kernel_rfl) (by kernel_rfl) (by kernel_rfl) (fun _ _ _ h => h) (Or.inl ⟨by rfl, ?_⟩) trivial ?_
          rotate_left
          · intro w hSw; go_simp; try with_reducible rfl
          try simp only [Act.put, List.setIfInBounds_toArray]
          refine wpAnyH_ready (rs := [27]) (by kernel_rfl) (by simp) ?_
          refine AllReadyH.cons rfl (fun K hK => ?_) ?_
          · go_simp
            refine hK.out _ _ trivial (fun hHeld => ?_)
            clear hK K
            try simp only [Act.put, List.setIfInBounds_toArray, List.set_cons_zero, List.set_cons_succ]
            refine wpAnyH_done (by kernel_rfl) ?_ _
            go_wp2_with fail
            go_meet
            refine ⟨_, a1, n1, c1, a2, n2, c2, rfl, ?_, ?_, Ne.symm ?_, ?_, ha2.len, ha3.len, ha2.go ?_ ?_, ha3.go ?_ ?_⟩
            all_goals go_light
            all_goals clear hcc hff hsz hcc2 hff2 hsz2 CN CO sl1 sl2 i0 i1 i2 i3 i4 i5 i6
            all_goals have hx2 := ha2.ext
            all_goals have hx3 := ha3.ext
            all_goals (repeat (first | with_reducible exact ha2.nums | with_reducible exact ha3.nums | with_reducible refine NumB.set ?_ ?_ _ | with_reducible refine NumB.ext hx3 ?_ | with_reducible refine NumB.ext (Ext.alloc (Ext.refl _) _) ?_ | with_reducible refine NumB.ext (Ext.drew (Ext.refl _)) ?_ | exact Or.inr (Nat.le_refl _) | (refine Or.inl ?_; have hq := hx2.size; simp only [size_allocM, size_drewM] at hq ⊢; omega) | (show (_ : Nat) < _; have hq := hx2.size; simp only [size_allocM, size_drewM] at hq ⊢; omega) | with_reducible exact Blk.new _ _ _ | with_reducible exact Ext.refl _ | with_reducible refine Blk.drew ?_ | with_reducible refine Ext.drew ?_ | with_reducible refine Blk.put4 (x := .int .i64 0) (y := .int .i64 0) (z := .slice none 0 0) (u := .slice none 0 0) ?_ | with_reducible refine Blk.other ?_ ?_ _ | with_reducible refine Ext.set ?_ ?_ _ | (with_reducible refine Blk.new' _ _ _ ?_; simp; done) | with_reducible refine Blk.alloc ?_ _ | with_reducible refine Ext.alloc ?_ _ | with_reducible refine Blk.ext hx3 ?_ | with_reducible refine Blk.ext hx2 ?_ | with_reducible refine Ext.trans ?_ hx3 | with_reducible refine Ext.trans ?_ hx2 | (show (_ : Nat) ≠ _; (try dsimp only); omega) | (show (_ : Nat) ≤ _; (try dsimp only); omega) | refine (Blk.ne_new (cs := #[.int .i64 0, .int .i64 0, .slice none 0 0, .slice none 0 0]) (t := 100) ?_) | refine Ext.size (a := w) ?_))
          exact AllReadyH.nil
        exact AllReadyH.nil
      exact AllReadyH.nil
    refine AllReadyH.cons rfl (fun K hK => ?_) ?_
    · go_simp
      refine hK.out _ _ trivial (fun hHeld => ?_)
      clear hK K
      try simp only [Act.put, List.setIfInBounds_toArray, List.set_cons_zero, List.set_cons_succ]
      refine wpAnyH_ready (rs := [19]) (by kernel_rfl) (by simp) ?_
      refine AllReadyH.cons rfl (fun K hK => ?_) ?_
      · go_simp
        refine (CN _).mono ?_
        rintro e w2 ⟨a1, n1, c1, rfl, ha2⟩
        have hsz := fun k (h : k < _) => Nat.lt_of_lt_of_le h ha2.ext.size
        obtain ⟨hcc, hff⟩ := bcellM ha2.ext.below
        go_wp2_with fail
        refine hK.out _ _ trivial (fun hHeld => ?_)
        clear hK K
        try simp only [Act.put, List.setIfInBounds_toArray, List.set_cons_zero, List.set_cons_succ]
        refine wpAnyH_ready (rs := [24]) (by kernel_rfl) (by simp) ?_
        refine AllReadyH.cons rfl (fun K hK => ?_) ?_
        · go_simp
          refine (CO _).mono ?_
          rintro e w3 ⟨a2, n2, c2, rfl, ha3⟩
          have hsz2 := fun k (h : k < _) => Nat.lt_of_lt_of_le h ha3.ext.size
          obtain ⟨hcc2, hff2⟩ := bcellM ha3.ext.below
          go_wp2_with fail
          refine hK.out _ _ trivial (fun hHeld => ?_)
          clear hK K
          try simp only [Act.put, List.setIfInBounds_toArray, List.set_cons_zero, List.set_cons_succ]
          refine wpAnyH_take (i := 25) (v := ?_) rfl (by kernel_rfl) (by kernel_rfl) (by kernel_rfl) (fun _ _ _ h => h) (Or.inl ⟨by rfl, ?_⟩) trivial ?_
          rotate_left
          · intro w hSw; go_simp; try with_reducible rfl
          try simp only [Act.put, List.setIfInBounds_toArray]
          refine wpAnyH_ready (rs := [27]) (by kernel_rfl) (by simp) ?_
          refine AllReadyH.cons rfl (fun K hK => ?_) ?_
          · go_simp
            refine hK.out _ _ trivial (fun hHeld => ?_)
            clear hK K
            try simp only [Act.put, List.setIfInBounds_toArray, List.set_cons_zero, List.set_cons_succ]
            refine wpAnyH_done (by kernel_rfl) ?_ _
            go_wp2_with fail
            go_meet
            refine ⟨_, a1, n1, c1, a2, n2, c2, rfl, ?_, ?_, Ne.symm ?_, ?_, ha2.len, ha3.len, ha2.go ?_ ?_, ha3.go ?_ ?_⟩
            all_goals go_light
            all_goals clear hcc hff hsz hcc2 hff2 hsz2 CN CO sl1 sl2 i0 i1 i2 i3 i4 i5 i6
            all_goals have hx2 := ha2.ext
            all_goals have hx3 := ha3.ext
            all_goals (repeat (first | with_reducible exact ha2.nums | with_reducible exact ha3.nums | with_reducible refine NumB.set ?_ ?_ _ | with_reducible refine NumB.ext hx3 ?_ | with_reducible refine NumB.ext (Ext.alloc (Ext.refl _) _) ?_ | with_reducible refine NumB.ext (Ext.drew (Ext.refl _)) ?_ | exact Or.inr (Nat.le_refl _) | (refine Or.inl ?_; have hq := hx2.size; simp only [size_allocM, size_drewM] at hq ⊢; omega) | (show (_ : Nat) < _; have hq := hx2.size; simp only [size_allocM, size_drewM] at hq ⊢; omega) | with_reducible exact Blk.new _ _ _ | with_reducible exact Ext.refl _ | with_reducible refine Blk.drew ?_ | with_reducible refine Ext.drew ?_ | with_reducible refine Blk.put4 (x := .int .i64 0) (y := .int .i64 0) (z := .slice none 0 0) (u := .slice none 0 0) ?_ | with_reducible refine Blk.other ?_ ?_ _ | with_reducible refine Ext.set ?_ ?_ _ | (with_reducible refine Blk.new' _ _ _ ?_; simp; done) | with_reducible refine Blk.alloc ?_ _ | with_reducible refine Ext.alloc ?_ _ | with_reducible refine Blk.ext hx3 ?_ | with_reducible refine Blk.ext hx2 ?_ | with_reducible refine Ext.trans ?_ hx3 | with_reducible refine Ext.trans ?_ hx2 | (show (_ : Nat) ≠ _; (try dsimp only); omega) | (show (_ : Nat) ≤ _; (try dsimp only); omega) | refine (Blk.ne_new (cs := #[.int .i64 0, .int .i64 0, .slice none 0 0, .slice none 0 0]) (t := 100) ?_) | refine Ext.size (a := w) ?_))
          exact AllReadyH.nil
        exact AllReadyH.nil
      exact AllReadyH.nil
    exact AllReadyH.nil
  case rest =>
    obtain ⟨blk, a1, n1, c1, a2, n2, c2, rfl, hB, hR, hne, hx, rfl, rfl, hN1, hN2⟩ := hcut
    rw [ep_sum x1 x2 x3 g1 l1 g2 l2 g3 l3, wrap_small x4 g4 (by omega)] at hB
    obtain ⟨ep, hep⟩ : ∃ ep, ep = x1 + 256 * x2 + 65536 * x3 := ⟨_, rfl⟩
    rw [← hep] at hB
    have HEP : Hid (ep = x1 + 256 * x2 + 65536 * x3) := hep
    clear hep
    have c0 : _ = some (Value.int .i64 ep) := hB.cell 0
    have c1' : _ = some (Value.int .i64 x4) := hB.cell 1
    have c2' : _ = some (Value.slice a1 LN.length c1) := hB.cell 2
    have c3 : _ = some (Value.slice a2 LO.length c2) := hB.cell 3
    have hlt2 := hB.lt
    have hLL' := hLL
    clear i0 i1 i2 i3 i4 i5 i6 sl1 sl2 CN CO
    have HC := manCheck_any ep x4 a1 a2 c1 c2 LN LO _ hLL' hN1.at hN2.at
    unfold errN at HC
    by_cases HF : manF ep x4 LN LO = 0
    · have HH : Hid (manF ep x4 LN LO = 0) := HF
      rw [if_pos HF] at HC
      have HCC := HC
      clear HF HC
      go_wp2_with (go_at_call 74; refine HCC.mono ?_; rintro e w2 ⟨rfl, hx2⟩; have hB2 := Blk.ext hx2 hB; have hR2 := Blk.ext hx2 hR; have c0 : _ = some (Value.int .i64 ep) := hB2.cell 0; have c1' : _ = some (Value.int .i64 x4) := hB2.cell 1; have c2' : _ = some (Value.slice a1 LN.length c1) := hB2.cell 2; have c3 : _ = some (Value.slice a2 LO.length c2) := hB2.cell 3; have r0 : _ = some (Value.int .i64 0) := hR2.cell 0; have r1 : _ = some (Value.int .i64 0) := hR2.cell 1; have r2 : _ = some (Value.slice none 0 0) := hR2.cell 2; have r3 : _ = some (Value.slice none 0 0) := hR2.cell 3; have f0 := hR2.free 0; have f1 := hR2.free 1; have f2 := hR2.free 2; have f3 := hR2.free 3; have hlt := hR2.lt; have hlt2 := hB2.lt)
      have q1 := ((((NumsF.ext hx2 hN1).set 0 (.int .i64 ep)).set 1 (.int .i64 x4)).set 2 (.slice a1 LN.length c1)).set 3 (.slice a2 LO.length c2)
      have q2 := ((((NumsF.ext hx2 hN2).set 0 (.int .i64 ep)).set 1 (.int .i64 x4)).set 2 (.slice a1 LN.length c1)).set 3 (.slice a2 LO.length c2)
      refine bodyPost_ret (v := .tuple #[.agg #[.int .i64 ep, .int .i64 x4, .slice a1 LN.length c1, .slice a2 LO.length c2], .nilIface]) (by simp [results, go_sem, r0, r1, r2, r3]) rfl (.inl ⟨by rw [← HEP.out]; exact HH.out, a1, c1, a2, c2, by rw [HEP.out], q1, q2, ?_⟩)
      refine Ext.set (Ext.set (Ext.set (Ext.set (hx.trans hx2) ?_ _) ?_ _) ?_ _) ?_ _ <;> exact Nat.le_refl _
    · rw [if_neg HF] at HC
      have HCC := HC
      have HH : Hid (¬ manF ep x4 LN LO = 0) := HF
      clear HF HC
      go_wp2_with (go_at_call 74; refine HCC.mono ?_; rintro e w2 ⟨rfl, hx2⟩; have hB2 := Blk.ext hx2 hB; have hR2 := Blk.ext hx2 hR; have c0 : _ = some (Value.int .i64 ep) := hB2.cell 0; have c1' : _ = some (Value.int .i64 x4) := hB2.cell 1; have c2' : _ = some (Value.slice a1 LN.length c1) := hB2.cell 2; have c3 : _ = some (Value.slice a2 LO.length c2) := hB2.cell 3; have r0 : _ = some (Value.int .i64 0) := hR2.cell 0; have r1 : _ = some (Value.int .i64 0) := hR2.cell 1; have r2 : _ = some (Value.slice none 0 0) := hR2.cell 2; have r3 : _ = some (Value.slice none 0 0) := hR2.cell 3; have f0 := hR2.free 0; have f1 := hR2.free 1; have f2 := hR2.free 2; have f3 := hR2.free 3; have hlt := hR2.lt; have hlt2 := hB2.lt)
      refine bodyPost_ret (v := .tuple #[.agg #[.int .i64 0, .int .i64 0, .slice none 0 0, .slice none 0 0], .iface 123 (.int .i64 4)]) (by simp [results, go_sem, r0, r1, r2, r3]) rfl (.inr ⟨by rw [← HEP.out]; exact HH.out, rfl, ?_⟩)
      refine Ext.set (Ext.set (Ext.set (Ext.set (hx.trans hx2) ?_ _) ?_ _) ?_ _) ?_ _ <;> exact Nat.le_refl _
end Go.Proofs.Ytpldeejagomfjaa
