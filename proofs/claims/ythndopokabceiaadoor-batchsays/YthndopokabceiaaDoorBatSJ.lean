/- BatS. -/
import Derived.Test.YthndopokabceiaaDoorBatHJ

/- BatchSays. -/
namespace Go.Proofs.YthndopokabceiaaDoor
open Go.RowKit Go.WideShapes

/-- What Parse answers, and the document: the same. -/
theorem same_two (W : World) (a b : Option Addr) (ca cb : Nat) (es : List Ent) (hl : es.length ≤ 1000) (h1 : EntsAt W a es) (h2 : EntsAt W b es) :
    Calls Tryd.prog 28 #[.slice a es.length ca, .slice b es.length cb] W fun e w' => e = .returned (.bool true) ∧ Ext W w' :=
  (sameEntries_eq a b ca cb es W (by omega) h1 h2).mono fun _ _ h => ⟨h.1, by obtain ⟨q, rfl⟩ := h.2; exact (Ext.refl W).drewN q⟩
theorem chgs_len (s : ByteArray) : (parseE s).getD [] = (if (textT (chgsE s)).2 = 0 then chgsE s else []) ∧ ((parseE s).getD []).length ≤ 4 := by
  unfold parseE
  by_cases h : (textT (chgsE s)).2 = 0
  · rw [if_pos h, if_pos h]
    refine ⟨rfl, ?_⟩
    show (chgsE s).length ≤ 4
    by_cases hn : (chgsE s).length = 0 ∨ 4 < (chgsE s).length
    · rw [textT_many _ hn] at h; cases h
    · omega
  · rw [if_neg h, if_neg h]
    exact ⟨rfl, Nat.zero_le _⟩
def parF (s : ByteArray) : Int := match parseE s with | none => 4 | some _ => 0
theorem parF_pos (s : ByteArray) : 0 ≤ parF s := by unfold parF; split <;> decide
set_option maxRecDepth 20000 in
set_option maxHeartbeats 4000000 in
theorem batches_any (w : World) (hg : Tryd.Glob w) :
    Calls Tryd.prog 22 #[] w fun e w' => e = .returned (.bool true) ∧ Ext w w' := by
  have HPA : Hid (Calls Tryd.prog 25 #[.string ⟨#[97, 61, 120, 32, 98]⟩] w fun e w' => ∃ xo xc, e = .returned (.tuple #[.slice xo 2 xc, .nilIface]) ∧ EntsAt w' xo [⟨⟨#[97]⟩, ⟨#[120]⟩, false⟩, ⟨⟨#[98]⟩, ⟨#[]⟩, true⟩] ∧ Ext w w') := (bparse_any ⟨#[97, 61, 120, 32, 98]⟩ w (by decide) hg).mono fun _ w' hh => by
    rw [parse_ax] at hh
    obtain ⟨v, h1, h2⟩ := hh.ex
    obtain ⟨xo, xc, rfl, h3⟩ := h2.at
    exact ⟨xo, xc, h1, h3, h2.ext⟩
  have HSM : Hid (∀ W, Calls Tryd.prog 27 #[.nilIface, .int .i64 0] W fun e w' => e = .returned (.bool true) ∧ W = w') := fun W => by
    have := same_nil 0 W
    exact this.mono fun _ _ h => ⟨h.1, h.2.symm⟩
  have HSE : Hid (∀ W a ca b cb, EntsAt W a [⟨⟨#[97]⟩, ⟨#[120]⟩, false⟩, ⟨⟨#[98]⟩, ⟨#[]⟩, true⟩] → EntsAt W b [⟨⟨#[97]⟩, ⟨#[120]⟩, false⟩, ⟨⟨#[98]⟩, ⟨#[]⟩, true⟩] → Calls Tryd.prog 28 #[.slice a 2 ca, .slice b 2 cb] W fun e w' => e = .returned (.bool true) ∧ Ext W w') := fun W a ca b cb h1 h2 => same_two W a b ca cb [⟨⟨#[97]⟩, ⟨#[120]⟩, false⟩, ⟨⟨#[98]⟩, ⟨#[]⟩, true⟩] (by decide) h1 h2
  clear hg
  go_enter Tryd.func22, Tryd.ntmps22
  go_wp2_with (first
    | (go_at_call 25; refine HPA.out.mono ?_; rintro e w1 ⟨xo, xc, rfl, hE1, hx1⟩)
    | (go_at_call 27; refine (HSM.out _).mono ?_; rintro e w2 ⟨rfl, rfl⟩)
    | (go_at_call 28; refine (HSE.out _ _ _ _ _ (hE1.ext ((Ext.refl _).alloc _)) (ents_two (Blk.new _ _ _))).mono ?_; rintro e w3 ⟨rfl, hx3⟩))
  go_ret
  exact ⟨rfl, (hx1.alloc _).trans hx3⟩
set_option maxRecDepth 20000 in
set_option maxHeartbeats 4000000 in
theorem batchSays_any (ao : Option Addr) (cap : Nat) (es : List Ent) (s : ByteArray) (w : World) (hg : Tryd.Glob w) (hl : es.length ≤ 9223372036854775807) (hes : EntsAt w ao es) :
    Calls Tryd.prog 9 #[.slice ao es.length cap, .string s] w fun e w' => e = .returned (.bool true) ∧ Ext w w' := by
  have HB : Hid (Calls Tryd.prog 22 #[] w fun e w' => e = .returned (.bool true) ∧ Ext w w') := batches_any w hg
  have HLI : Hid (∀ W, Ext w W → Calls Tryd.prog 14 #[.slice ao es.length cap, .int .i64 8] W fun e w' => e = .returned (.bool (light es 8)) ∧ W = w') := fun W hx => (light_any ao cap es 8 W (by omega) hl (hes.ext hx)).mono fun _ _ h => ⟨h.1, h.2.symm⟩
  have HLS : Hid (light es 8 = true → es.length ≤ 8 ∧ Small es) := fun h => light_small h
  have HTX : Hid (Small es → ∀ W, Ext w W → Calls Tryd.prog 23 #[.slice ao es.length cap] W fun e w' => e = .returned (.tuple #[.string (textT es).1, errV (textT es).2]) ∧ Ext W w') := fun h W hx => text_any ao cap es W hl (hes.ext hx) h
  have HRX : Hid (Small es → ∀ W, Ext w W → Calls Tryd.prog 24 #[.slice ao es.length cap] W fun e w' => e = .returned (.tuple #[.string (textT es).1, .int .i64 (textT es).2]) ∧ Ext W w') := fun h W hx => rtext_any ao cap es W hl (hes.ext hx) h
  have HS1 : Hid (∀ W, Calls Tryd.prog 27 #[errV (textT es).2, .int .i64 (textT es).2] W fun e w' => e = .returned (.bool true) ∧ W = w') := fun W => (same_self _ (textT_pos es) W).mono fun _ _ h => ⟨h.1, h.2.symm⟩
  have HS2 : Hid (∀ W, Calls Tryd.prog 27 #[errV (parF s), .int .i64 (parF s)] W fun e w' => e = .returned (.bool true) ∧ W = w') := fun W => (same_self _ (parF_pos s) W).mono fun _ _ h => ⟨h.1, h.2.symm⟩
  have HPA : Hid (s.size ≤ 120 → ∀ W, Ext w W → Calls Tryd.prog 25 #[.string s] W fun e w' => ∃ xo xc, e = .returned (.tuple #[.slice xo ((parseE s).getD []).length xc, errV (parF s)]) ∧ EntsAt w' xo ((parseE s).getD []) ∧ Ext W w') := fun h W hx => (bparse_any s W (by omega) (glob_ext hg hx)).mono fun _ w' hh => by
    obtain ⟨v, h1, h2⟩ := hh.ex
    obtain ⟨xo, xc, rfl, h3⟩ := h2.at
    exact ⟨xo, xc, h1, h3, h2.ext⟩
  have HRA : Hid (s.size ≤ 120 → ∀ W, Calls Tryd.prog 26 #[.string s] W fun e w' => ∃ xo xc, e = .returned (.tuple #[.slice xo ((parseE s).getD []).length xc, .int .i64 (parF s)]) ∧ EntsAt w' xo ((parseE s).getD []) ∧ Ext W w') := fun h W => (rbatch_any s W (by omega)).mono fun _ w' hh => by
    obtain ⟨v, h1, h2⟩ := hh.ex
    obtain ⟨xo, xc, rfl, h3⟩ := h2.at
    exact ⟨xo, xc, h1, h3, h2.ext⟩
  have HSE : Hid (∀ W a ca b cb, EntsAt W a ((parseE s).getD []) → EntsAt W b ((parseE s).getD []) → Calls Tryd.prog 28 #[.slice a ((parseE s).getD []).length ca, .slice b ((parseE s).getD []).length cb] W fun e w' => e = .returned (.bool true) ∧ Ext W w') := fun W a ca b cb h1 h2 => same_two W a b ca cb _ (by have := (chgs_len s).2; omega) h1 h2
  clear hes hg
  generalize light es 8 = LI at *
  generalize textT es = tt at *
  obtain ⟨tx, f⟩ := tt
  generalize (parseE s).getD [] = pe at *
  generalize parF s = pf at *
  cases LI with
  | false =>
    clear HTX HRX HS1 HS2 HPA HRA HSE HLS
    go_enter Tryd.func9, Tryd.ntmps9
    go_wp2_with (first
      | (go_at_call 22; refine HB.out.mono ?_; rintro e w1 ⟨rfl, hx1⟩)
      | (go_at_call 14; refine (HLI.out _ hx1).mono ?_; rintro e w2 ⟨rfl, rfl⟩))
    go_ret
    exact ⟨rfl, hx1⟩
  | true =>
    obtain ⟨hl8, hsm⟩ := HLS.out rfl
    have HT2 : Hid (∀ W, Ext w W → Calls Tryd.prog 23 #[.slice ao es.length cap] W fun e w' => e = .returned (.tuple #[.string tx, errV f]) ∧ Ext W w') := HTX.out hsm
    have HR2 : Hid (∀ W, Ext w W → Calls Tryd.prog 24 #[.slice ao es.length cap] W fun e w' => e = .returned (.tuple #[.string tx, .int .i64 f]) ∧ Ext W w') := HRX.out hsm
    have HS3 : Hid (∀ W, Calls Tryd.prog 27 #[errV f, .int .i64 f] W fun e w' => e = .returned (.bool true) ∧ W = w') := HS1.out
    clear HTX HRX hsm HLS HS1
    by_cases hs : s.size ≤ 120
    · have hs' : ¬ (120 : Int) < (s.size : Int) := by omega
      have HP2 := HPA.out hs
      have HQ2 := HRA.out hs
      have HPB : Hid (∀ W, Ext w W → Calls Tryd.prog 25 #[.string s] W fun e w' => ∃ xo xc, e = .returned (.tuple #[.slice xo pe.length xc, errV pf]) ∧ EntsAt w' xo pe ∧ Ext W w') := HP2
      have HRB : Hid (∀ W, Calls Tryd.prog 26 #[.string s] W fun e w' => ∃ xo xc, e = .returned (.tuple #[.slice xo pe.length xc, .int .i64 pf]) ∧ EntsAt w' xo pe ∧ Ext W w') := HQ2
      clear HPA HRA HP2 HQ2
      generalize errV f = ef at *
      generalize errV pf = ep at *
      have t1 : True := trivial
      go_enter Tryd.func9, Tryd.ntmps9
      go_wp2_with (first
        | (go_at_call 22; refine HB.out.mono ?_; rintro e w1 ⟨rfl, hx1⟩)
        | (go_at_call 14; refine (HLI.out _ hx1).mono ?_; rintro e w2 ⟨rfl, rfl⟩)
        | (go_at_call 23; refine (HT2.out _ hx1).mono ?_; rintro e w3 ⟨rfl, hx3⟩)
        | (go_at_call 24; refine (HR2.out _ (hx1.trans hx3)).mono ?_; rintro e w4 ⟨rfl, hx4⟩)
        | (go_at_call 25; refine (HPB.out _ ((hx1.trans hx3).trans hx4)).mono ?_; rintro e w5 ⟨xo, xc, rfl, hE5, hx5⟩)
        | (go_at_call 26; refine (HRB.out _).mono ?_; rintro e w6 ⟨yo, yc, rfl, hE6, hx6⟩)
        | (go_at_call 27; have _t := t1; refine (HS3.out _).mono ?_; rintro e w7 ⟨rfl, rfl⟩; clear t1)
        | (go_at_call 28; refine (HSE.out _ _ _ _ _ (hE5.ext hx6) hE6).mono ?_; rintro e w8 ⟨rfl, hx8⟩)
        | (go_at_call 27; refine (HS2.out _).mono ?_; rintro e w9 ⟨rfl, rfl⟩))
      go_ret
      exact ⟨rfl, ((((hx1.trans hx3).trans hx4).trans hx5).trans hx6).trans hx8⟩
    · have hs' : (120 : Int) < (s.size : Int) := by omega
      clear HPA HRA
      go_enter Tryd.func9, Tryd.ntmps9
      go_wp2_with (first
        | (go_at_call 22; refine HB.out.mono ?_; rintro e w1 ⟨rfl, hx1⟩)
        | (go_at_call 14; refine (HLI.out _ hx1).mono ?_; rintro e w2 ⟨rfl, rfl⟩))
      go_ret
      exact ⟨rfl, hx1⟩
end Go.Proofs.YthndopokabceiaaDoor
