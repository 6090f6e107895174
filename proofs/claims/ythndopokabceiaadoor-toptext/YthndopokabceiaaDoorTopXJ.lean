/- TopX. -/
import Derived.Test.YthndopokabceiaaDoorBatHJ

/- TopText. -/
namespace Go.Proofs.YthndopokabceiaaDoor
open Go.RowKit Go.WideShapes

set_option maxRecDepth 20000 in
set_option maxHeartbeats 4000000 in
theorem topText_any (ao : Option Addr) (cap : Nat) (es : List Ent) (w : World) (hg : Tryd.Glob w) (hl : es.length ≤ 9223372036854775807) (hes : EntsAt w ao es) :
    Calls Tryd.prog 11 #[.slice ao es.length cap] w fun e w' => e = .returned (.bool true) ∧ Ext w w' := by
  have HX0 : Ext w (w.alloc (.cells #[.string ⟨#[97]⟩, .string ⟨#[]⟩, .bool false] 34)) := (Ext.refl w).alloc _
  have HT1 : Hid (Calls Tryd.prog 23 #[.slice (some ⟨w.heap.size, 0, none⟩) 1 1] (w.alloc (.cells #[.string ⟨#[97]⟩, .string ⟨#[]⟩, .bool false] 34)) fun e w' => e = .returned (.tuple #[.string ⟨#[97, 61]⟩, .nilIface]) ∧ Ext w w') := by
    have := text_any (some ⟨w.heap.size, 0, none⟩) 1 [⟨⟨#[97]⟩, ⟨#[]⟩, false⟩] (w.alloc (.cells #[.string ⟨#[97]⟩, .string ⟨#[]⟩, .bool false] 34)) (by decide) (ents_one (Blk.new _ _ _)) (fun e he => by simp at he; subst he; exact ⟨by decide, by decide⟩)
    rw [text_a] at this
    exact this.mono fun _ _ h => ⟨h.1, HX0.trans h.2⟩
  have HLI : Hid (∀ W, Ext w W → Calls Tryd.prog 14 #[.slice ao es.length cap, .int .i64 8] W fun e w' => e = .returned (.bool (light es 8)) ∧ W = w') := fun W hx => (light_any ao cap es 8 W (by omega) hl (hes.ext hx)).mono fun _ _ h => ⟨h.1, h.2.symm⟩
  have HLS : Hid (light es 8 = true → es.length ≤ 8 ∧ Small es) := fun h => light_small h
  have HTX : Hid (Small es → ∀ W, Ext w W → Calls Tryd.prog 23 #[.slice ao es.length cap] W fun e w' => e = .returned (.tuple #[.string (textT es).1, errV (textT es).2]) ∧ Ext W w') := fun h W hx => text_any ao cap es W hl (hes.ext hx) h
  have HPT : Hid ((textT es).2 = 0 → parseE (textT es).1 = some es) := parse_text es
  have hts := textT_small es
  have HES : Hid (EntsAt w ao es) := hes
  have HG : Hid (Tryd.Glob w) := hg
  clear hes hg HX0
  generalize light es 8 = LI at *
  generalize textT es = tt at *
  obtain ⟨tx, f⟩ := tt
  dsimp only at hts
  cases LI with
  | false =>
    go_enter Tryd.func11, Tryd.ntmps11
    go_wp2_with (first
      | (go_at_call 23; refine HT1.out.mono ?_; rintro e w1 ⟨rfl, hx1⟩)
      | (go_at_call 14; refine (HLI.out _ hx1).mono ?_; rintro e w2 ⟨rfl, rfl⟩))
    go_ret
    exact ⟨rfl, hx1⟩
  | true =>
    obtain ⟨hl8, hsm⟩ := HLS.out rfl
    have HT2 : Hid (∀ W, Ext w W → Calls Tryd.prog 23 #[.slice ao es.length cap] W fun e w' => e = .returned (.tuple #[.string tx, errV f]) ∧ Ext W w') := HTX.out hsm
    clear HTX hsm
    have t1 : True := trivial
    by_cases hf : f = 0
    · subst hf
      have hpe := HPT.out rfl
      dsimp only at hpe
      have HPA : Hid (∀ W, Ext w W → Calls Tryd.prog 25 #[.string tx] W fun e w' => ∃ xo xc, e = .returned (.tuple #[.slice xo es.length xc, .nilIface]) ∧ EntsAt w' xo es ∧ Ext W w') := fun W hx => (bparse_any tx W (by have := hts.1; omega) (glob_ext HG.out hx)).mono fun _ w' hh => by
        rw [hpe] at hh
        obtain ⟨v, h1, h2⟩ := hh.ex
        obtain ⟨xo, xc, rfl, h3⟩ := h2.at
        exact ⟨xo, xc, h1, h3, h2.ext⟩
      have HSE : Hid (∀ W xo xc, EntsAt W xo es → EntsAt W ao es → Calls Tryd.prog 28 #[.slice xo es.length xc, .slice ao es.length cap] W fun e w' => e = .returned (.bool true) ∧ Ext W w') := fun W xo xc h1 h2 => (sameEntries_eq xo ao xc cap es W hl h1 h2).mono fun _ _ h => ⟨h.1, by obtain ⟨q, rfl⟩ := h.2; exact (Ext.refl W).drewN q⟩
      clear hpe hts HPT HG HLS
      have he0 : errV (0 : Int) = .nilIface := rfl
      rw [he0] at HT2
      clear he0
      go_enter Tryd.func11, Tryd.ntmps11
      go_wp2_with (first
        | (go_at_call 23; have _t := t1; refine HT1.out.mono ?_; rintro e w1 ⟨rfl, hx1⟩; clear t1)
        | (go_at_call 14; refine (HLI.out _ hx1).mono ?_; rintro e w2 ⟨rfl, rfl⟩)
        | (go_at_call 23; refine (HT2.out _ hx1).mono ?_; rintro e w3 ⟨rfl, hx3⟩)
        | (go_at_call 25; refine (HPA.out _ (hx1.trans hx3)).mono ?_; rintro e w4 ⟨xo, xc, rfl, hE4, hx4⟩)
        | (go_at_call 28; refine (HSE.out _ _ _ hE4 (HES.out.ext ((hx1.trans hx3).trans hx4))).mono ?_; rintro e w5 ⟨rfl, hx5⟩))
      go_ret
      exact ⟨rfl, ((hx1.trans hx3).trans hx4).trans hx5⟩
    · have he1 : errV f = .iface 82 (.int .i64 f) := by unfold errV; rw [if_neg hf]
      have htx := hts.2 hf
      subst htx
      rw [he1] at HT2
      clear he1 hf hts HPT HG HLS
      go_enter Tryd.func11, Tryd.ntmps11
      go_wp2_with (first
        | (go_at_call 23; have _t := t1; refine HT1.out.mono ?_; rintro e w1 ⟨rfl, hx1⟩; clear t1)
        | (go_at_call 14; refine (HLI.out _ hx1).mono ?_; rintro e w2 ⟨rfl, rfl⟩)
        | (go_at_call 23; refine (HT2.out _ hx1).mono ?_; rintro e w3 ⟨rfl, hx3⟩))
      go_ret
      exact ⟨rfl, hx1.trans hx3⟩
end Go.Proofs.YthndopokabceiaaDoor
