
/- Manifests on a chip: read. -/
import Derived.Test.YtpldeejagomfjaaManH
import Derived.Test.YtpldeejagomfjaaChpJ
namespace Go.Proofs.Ytpldeejagomfjaa
open Go.RowKit Go.WideShapes
attribute [local go_sem ↓] Go.wp_at_zero Go.wp_at_succ

theorem ChipAt.d64 {w : World} {cb : Nat} {M : CM} (h : ChipAt w cb M) {b p : Nat} {d : List UInt8} (hb : b < 24) (hg : (M.pg b)[p]? = some (.whole d)) : d.length = 64 := by
  obtain ⟨⟨cs, fv, _, h2, _⟩, _⟩ := h
  exact (h2.blk b hb).d64 p d hg
theorem ChipAt.len8 {w : World} {cb : Nat} {M : CM} (h : ChipAt w cb M) {b : Nat} (hb : b < 24) : (M.pg b).length ≤ 8 := by
  obtain ⟨⟨cs, fv, _, h2, _⟩, _⟩ := h
  exact (h2.blk b hb).len8
/-- The manifest of a page. -/
def pageM (M : CM) (b p : Nat) : Option Man := match (M.pg b)[p]? with
  | some (.whole d) => parseB d
  | _ => none
theorem readR_of {M : CM} {b p : Nat} (hd : downB M = false) (hb : b < 24) (hp : p < 8) : readR M (b : Int) (p : Int) = (match (M.pg b)[p]? with | none => ([], 5) | some (.whole d) => (d, 0) | some .torn => ([], 4)) := by
  unfold readR; rw [hd, if_neg (by simp), if_pos ⟨by omega, by omega, by omega, by omega⟩, Int.toNat_natCast, Int.toNat_natCast]; rfl
/-- What read gives. -/
def ReadEnd (w w' : World) (e : Ending) (o : Option Man) : Prop :=
  (∃ m v, o = some m ∧ e = .returned (.tuple #[v, .nilIface]) ∧ ManV w' w.heap.size m v ∧ Ext w w') ∨ (o = none ∧ ∃ n, e = .returned (.tuple #[zeroV, .iface 123 (.int .i64 n)]) ∧ Ext w w')

set_option maxRecDepth 20000 in
set_option maxHeartbeats 1000000 in
theorem readM_err (cb b p : Nat) (n : Int) (M : CM) (w : World) (h : ChipAt w cb M) (hn : ¬ n = 0) (hr : readR M (b : Int) (p : Int) = ([], n)) :
    Calls Try.prog 102 #[.pointer (some ⟨cb, 0, none⟩), .int .i64 (b : Int), .int .i64 (p : Int)] w fun e w' => e = .returned (.tuple #[zeroV, .iface 123 (.int .i64 n)]) ∧ Ext w w' := by
  have HR : Hid (∀ o, Calls Try.prog 40 #[.pointer (some ⟨cb, 0, none⟩), .int .i64 (b : Int), .int .i64 (p : Int)] (w.alloc o) fun e w' => e = .returned (.tuple #[.string ⟨#[]⟩, .iface 123 (.int .i64 n)]) ∧ w' = w.alloc o) := fun o => by
    have := read_any cb (b : Int) (p : Int) M (w.alloc o) (h.ext ((Ext.refl w).alloc o))
    rw [hr] at this; unfold errV at this; rw [if_neg hn] at this; exact this
  clear h hr hn
  go_enter Try.func102, Try.ntmps102
  go_wp2_with (go_at_call 40; refine (HR.out _).mono ?_; rintro e w' ⟨rfl, rfl⟩)
  refine bodyPost_ret (v := .tuple #[zeroV, .iface 123 (.int .i64 n)]) (by simp [results, go_sem, zeroV]) rfl ⟨rfl, ?_⟩
  exact (Ext.refl w).alloc _

set_option maxRecDepth 20000 in
set_option maxHeartbeats 1000000 in
theorem readM_ok (cb b p : Nat) (d : List UInt8) (M : CM) (w : World) (h : ChipAt w cb M) (hd : d.length = 64) (hr : readR M (b : Int) (p : Int) = (d, 0)) :
    Calls Try.prog 102 #[.pointer (some ⟨cb, 0, none⟩), .int .i64 (b : Int), .int .i64 (p : Int)] w fun e w' => ReadEnd w w' e (parseB d) := by
  have HR : Hid (∀ o, Calls Try.prog 40 #[.pointer (some ⟨cb, 0, none⟩), .int .i64 (b : Int), .int .i64 (p : Int)] (w.alloc o) fun e w' => e = .returned (.tuple #[.string (txtL d), .nilIface]) ∧ w' = w.alloc o) := fun o => by
    have := read_any cb (b : Int) (p : Int) M (w.alloc o) (h.ext ((Ext.refl w).alloc o))
    rw [hr] at this; unfold errV at this; rw [if_pos rfl] at this; exact this
  have HP : Hid (∀ W, Calls Try.prog 72 #[.string (txtL d)] W fun e w' => PEnd W w' e (parseB d)) := fun W => parseM_any (txtL d) W (by rw [Lib.size_eq]; simp [txtL, hd])
  have HBR : Hid (∀ W, Ext (w.alloc (.cells #[.int .i64 0, .int .i64 0, .slice none 0 0, .slice none 0 0] 100)) W → Blk W w.heap.size #[.int .i64 0, .int .i64 0, .slice none 0 0, .slice none 0 0] 100) := fun W hx => Blk.ext hx (Blk.new _ _ _)
  clear h hr hd
  generalize parseB d = o at *
  generalize txtL d = T at *
  go_enter Try.func102, Try.ntmps102
  go_wp2_with (first
    | (go_at_call 40; refine (HR.out _).mono ?_; rintro e w' ⟨rfl, rfl⟩)
    | (go_at_call 72; refine (HP.out _).mono ?_; rintro e w2 (⟨m, v, rfl, rfl, ⟨a1, c1, a2, c2, rfl, q1, q2⟩, hx⟩ | ⟨rfl, rfl, hx⟩) <;> (have hB := HBR.out _ hx; have r0 : _ = some (Value.int .i64 0) := hB.cell 0; have r1 : _ = some (Value.int .i64 0) := hB.cell 1; have r2 : _ = some (Value.slice none 0 0) := hB.cell 2; have r3 : _ = some (Value.slice none 0 0) := hB.cell 3; have f0 := hB.free 0; have f1 := hB.free 1; have f2 := hB.free 2; have f3 := hB.free 3; have hlt := hB.lt; try unfold zeroV)))
  · have hg : w.heap.size ≤ (w.alloc (.cells #[.int .i64 0, .int .i64 0, .slice none 0 0, .slice none 0 0] 100)).heap.size := by simp
    have k1 := ((((q1.mono hg).set 0 (.int .i64 m.ep)).set 1 (.int .i64 m.lg)).set 2 (.slice a1 m.nw.length c1)).set 3 (.slice a2 m.od.length c2)
    have k2 := ((((q2.mono hg).set 0 (.int .i64 m.ep)).set 1 (.int .i64 m.lg)).set 2 (.slice a1 m.nw.length c1)).set 3 (.slice a2 m.od.length c2)
    refine bodyPost_ret (v := .tuple #[.agg #[.int .i64 m.ep, .int .i64 m.lg, .slice a1 m.nw.length c1, .slice a2 m.od.length c2], .nilIface]) (by simp [results, go_sem, r0, r1, r2, r3]) rfl (.inl ⟨m, _, rfl, rfl, ⟨a1, c1, a2, c2, rfl, k1, k2⟩, ?_⟩)
    refine Ext.set (Ext.set (Ext.set (Ext.set (((Ext.refl w).alloc _).trans hx) ?_ _) ?_ _) ?_ _) ?_ _ <;> exact Nat.le_refl _
  · refine bodyPost_ret (v := .tuple #[zeroV, .iface 123 (.int .i64 4)]) (by simp [results, go_sem, r0, r1, r2, r3, zeroV]) rfl (.inr ⟨rfl, 4, rfl, ?_⟩)
    refine Ext.set (Ext.set (Ext.set (Ext.set (((Ext.refl w).alloc _).trans hx) ?_ _) ?_ _) ?_ _) ?_ _ <;> exact Nat.le_refl _
theorem readM_any (cb b p : Nat) (M : CM) (w : World) (h : ChipAt w cb M) (hd : downB M = false) (hb : b < 24) (hp : p < 8) :
    Calls Try.prog 102 #[.pointer (some ⟨cb, 0, none⟩), .int .i64 (b : Int), .int .i64 (p : Int)] w fun e w' => ReadEnd w w' e (pageM M b p) := by
  have hr := readR_of hd hb hp
  unfold pageM
  cases hg : (M.pg b)[p]? with
  | none =>
    rw [hg] at hr
    refine (readM_err cb b p 5 M w h (by decide) hr).mono ?_
    rintro e w' ⟨rfl, hx⟩
    exact .inr ⟨rfl, 5, rfl, hx⟩
  | some q =>
    rw [hg] at hr
    cases q with
    | torn =>
      refine (readM_err cb b p 4 M w h (by decide) hr).mono ?_
      rintro e w' ⟨rfl, hx⟩
      exact .inr ⟨rfl, 4, rfl, hx⟩
    | whole d => exact readM_ok cb b p d M w h (h.d64 hb hg) hr
end Go.Proofs.Ytpldeejagomfjaa
