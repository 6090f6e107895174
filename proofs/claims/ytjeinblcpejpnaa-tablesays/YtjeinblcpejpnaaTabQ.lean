/- Tables: small words that both statements want. -/
import Derived.Test.YtjeinblcpejpnaaTabL
namespace Go.Proofs.Ytjeinblcpejpnaa
open Go.RowKit Go.WideShapes
attribute [local go_sem ↓] Go.wp_at_zero Go.wp_at_succ

theorem Ext.grownC {a b c : World} {cb : Nat} (h : Ext a b) (hg : b.grownBy c (some cb)) (hb : a.heap.size ≤ cb) : Ext a c := ⟨h.below.grown hg h.size (fun k e => by cases e; exact hb)⟩
theorem same_ret' (W : World) (xo yo : Option Addr) (xc yc : Nat) (es : List Ent) (h1 : es.length ≤ 9223372036854775807) (h2 : EntsAt W xo es) (h3 : EntsAt W yo es) : Calls Try.prog 23 #[.slice xo es.length xc, .slice yo es.length yc] W fun e w' => e = .returned (.bool true) ∧ Ext W w' := by
  refine (sameEntries_eq xo yo xc yc es W h1 h2 h3).mono ?_
  rintro e w' ⟨rfl, q, rfl⟩
  exact ⟨rfl, (Ext.refl W).drewN q⟩
def eKx : Ent := ⟨⟨#[107]⟩, ⟨#[120]⟩, false⟩
theorem tab_eKx : tabF [eKx] = 0 := by
  have h1 : ¬ eKx.key.toList = [] := by rw [toList_nil]; decide
  have h2 : faultB eKx.key eKx.val eKx.gone = 0 := by
    unfold faultB
    rw [if_neg (by simp [h1, show eKx.gone = false from rfl]), if_neg (by decide)]
  unfold tabF
  rw [if_neg (by simp)]
  unfold tabS
  rw [if_neg (by simp [h2]), if_neg (by simp [notUp])]
  rfl
theorem get_eKx : getE [eKx] ⟨#[107]⟩ = some eKx := getE_of_mem (tabF_ris tab_eKx) (e := eKx) (List.mem_singleton.2 rfl)
theorem ents_one {w : World} {b : Nat} {t : TypeId} (e : Ent) (h : Blk w b #[.string e.key, .string e.val, .bool e.gone] t) : EntsAt w (some ⟨b, 0, none⟩) [e] := fun _ => ⟨b, 0, rfl, fun i x hx => by
  match i with
  | 0 => simp at hx; subst hx; exact ⟨h.cell 0, h.cell 1, h.cell 2⟩
  | n + 1 => simp at hx⟩
/-- A chip of the statement: nothing hinders it. -/
structure Calm (M : CM) : Prop where
  fine : ∀ b, Fine M b
  wr : ∀ b, M.wr b ≤ 10
theorem Calm.table {M : CM} {b : Nat} {es : List Ent} (h : Calm M) (hb : b < 24) (hz : tabF es = 0) (hw : ∀ c, M.wr c ≤ 9) : (writeT M (b : Int) es).2 = 0 ∧ TabAt (writeT M (b : Int) es).1 b es ∧ Calm (writeT M (b : Int) es).1 ∧ (∀ c, (writeT M (b : Int) es).1.wr c ≤ M.wr c + 1) := by
  obtain ⟨g1, g2, g3, _, g5, g6, g7⟩ := writeT_fine (h.fine b) hb hz
  have hwr : ∀ c, (writeT M (b : Int) es).1.wr c ≤ M.wr c + 1 := fun c => by rw [g7]; unfold upd; split <;> (try subst_vars) <;> omega
  exact ⟨g1, g2, ⟨fun c => ⟨g3.pend, by rw [g5]; exact (h.fine c).bd, by rw [g6]; exact (h.fine c).wk, g3.left⟩, fun c => by have := hwr c; have := hw c; omega⟩, hwr⟩
theorem Calm.left {M : CM} (h : Calm M) : M.left ≤ 9223372036854775807 := by rw [(h.fine 0).left]; decide
theorem Calm.wrOk {M : CM} (h : Calm M) : WrOk M := fun b _ => by have := h.wr b; omega
theorem newM_calm : Calm newM := ⟨newM_fine, fun b => by show 0 ≤ 10; omega⟩
end Go.Proofs.Ytjeinblcpejpnaa
