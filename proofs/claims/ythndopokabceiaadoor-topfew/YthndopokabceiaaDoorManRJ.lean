/- ManR. -/
import Derived.Test.YthndopokabceiaaDoorManMJ
import Derived.Test.YthndopokabceiaaDoorEntAJ
import Derived.Deep.QuietTactic
import Derived.BigQuiet
import Derived.Deep.DeepCutAuto
import Derived.Deep.RegionHeld3

/- Manifests: what the document's ManifestFault answers. -/
namespace Go.Proofs.YthndopokabceiaaDoor
open Go.RowKit Go.WideShapes
attribute [local go_sem ↓] Go.wp_at_zero Go.wp_at_succ

theorem IL.new {W0 w : World} (hx : Ext W0 w) (x : Int) : IL W0 (w.alloc (.cells #[.int .i64 x] 3)) (.slice (some ⟨w.heap.size, 0, none⟩) 1 1) [x] := by
  refine ⟨⟨by simp [rowI], .inr ⟨w.heap.size, 1, _, rfl, hx.size, heap_alloc_new w _, Nat.le_refl _, by unfold maxLen; omega, by simp, ?_⟩⟩, hx.alloc _⟩
  simp [rowI]
theorem IL.drew {W0 w : World} {v : Value} {xs : List Int} (h : IL W0 w v xs) : IL W0 w.drew v xs := ⟨h.own.drew, h.ext.drew⟩
/-- append of numbers, in a region that draws. -/
theorem step_app_row {w : World} {ops : Array Oper} {o : Oper} {a : Act} {K : Act → World → Prop} {Q : Exit → Act → World → Prop} {E : Prop} (hgd : o.guard = none) (s x : Operand)
    (ho : o.op = .call { callee := .builtin .append, args := #[s, x], argTypes := #[39, 39] })
    (base : Nat) (v : Value) (es : List Int) (hs : a.eval s = v) (hl : w.ownsRow base 3 1 v es.length (rowI es)) (hb : base ≤ w.heap.size) (ao : Option Addr) (c : Nat) (fs : List Int) (hx : a.eval x = .slice ao fs.length c)
    (hfs : NumsAt w ao fs) (hn : es.length + fs.length ≤ 100000)
    (h : ∀ v' w', w'.ownsRow base 3 1 v' (es ++ fs).length (rowI (es ++ fs)) → w.grownBy w' v.ownBlock → K (a.put o.dst v') w') : if Region.wanted o (yielded ops a.tmps) = true then Oper.wp Tryd.prog o a w K Q else E := by
  have hw : Region.wanted o (yielded ops a.tmps) = true := by simp [Region.wanted, hgd]
  rw [if_pos hw]
  obtain ⟨i0, hi, hz0, hz1, hz2⟩ := info_parts Tryd.info3
  have key : ∀ v' w', w'.ownsRow base 3 1 v' (es.length + fs.length) (rowI es ++ rowI fs) → w.grownBy w' v.ownBlock → K (a.put o.dst v') w' := fun v' w' p q => by
    refine h v' w' ?_ q
    rw [show rowI (es ++ fs) = rowI es ++ rowI fs by simp [rowI], List.length_append]; exact p
  cases ao with
  | some ad =>
    have hnews : ∀ j u, (rowI fs)[j]? = some u → w.cell? (ad.add j) = some u := by
      by_cases hn : rowI fs = []
      · rw [hn]; intro j u hj; simp at hj
      · obtain ⟨ad', hh, hc⟩ := hfs.row hn
        cases hh; exact hc
    exact wp_append_own w s x 39 ho base 3 i0 (.int .i64 0) 1 8 Tryd.underlying39 hi hz0 hz1 hz2 rfl (by decide) v es.length (rowI es) hs hl ad fs.length c (rowI fs) hx (by simp [rowI]) hnews (rowI_one fs) (by unfold maxLen; omega) (by omega) hb (fun v' w' p q _ => key v' w' p q)
  | none =>
    have hf0 : fs = [] := by
      by_cases hf : fs = []
      · exact hf
      · obtain ⟨b, off, e, _⟩ := hfs hf; cases e
    subst hf0
    obtain ⟨bo, cap, hv, hle⟩ : ∃ bo cap, v = .slice bo es.length cap ∧ es.length ≤ cap := by
      rcases hl.2 with ⟨hv, h0⟩ | ⟨g, cap, cur, rfl, _, _, hle, _⟩
      · exact ⟨none, 0, by rw [hv, h0], by rw [h0]; exact Nat.le_refl _⟩
      · exact ⟨_, _, rfl, hle⟩
    have hr := run_append_nothing (P := Tryd.prog) w 39 39 o.type 3 i0 Tryd.underlying39 hi bo es.length cap hle (.slice none 0 c) (Src.ofNil w Tryd.underlying39 c)
    rw [← hv] at hr
    unfold Oper.wp execOp
    simp only [ho, resolve, invoke, builtin, Sem.run_bind, Sem.run_pure, Result.andThen_ok, List.map_toArray, List.map_cons, List.map_nil, hs, hx, List.length_nil, hr]
    exact key v w (by simpa [rowI] using hl) ⟨rfl, rfl, rfl, Nat.le_refl _, fun _ _ _ => rfl⟩
theorem step_app_nums {w : World} {ops : Array Oper} {o : Oper} {a : Act} {K : Act → World → Prop} {Q : Exit → Act → World → Prop} {E : Prop} (hgd : o.guard = none) (s x : Operand)
    (ho : o.op = .call { callee := .builtin .append, args := #[s, x], argTypes := #[39, 39] })
    (W0 : World) (v : Value) (es : List Int) (hs : a.eval s = v) (hl : IL W0 w v es) (ao : Option Addr) (c : Nat) (fs : List Int) (hx : a.eval x = .slice ao fs.length c)
    (hfs : NumsAt w ao fs) (hn : es.length + fs.length ≤ 100000)
    (h : ∀ v' w', IL W0 w' v' (es ++ fs) → w.grownBy w' v.ownBlock → K (a.put o.dst v') w') : if Region.wanted o (yielded ops a.tmps) = true then Oper.wp Tryd.prog o a w K Q else E :=
  step_app_row hgd s x ho W0.heap.size v es hs hl.own hl.ext.size ao c fs hx hfs hn (fun v' w' p q => h v' w' ⟨p, hl.ext.grown q (own_ge hl.own)⟩ q)

end Go.Proofs.YthndopokabceiaaDoor
