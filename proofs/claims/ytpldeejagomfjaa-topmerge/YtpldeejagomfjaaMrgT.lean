
/- TopMerge. -/
import Derived.Test.YtpldeejagomfjaaMrgB
import Derived.Test.YtpldeejagomfjaaMrgD
import Derived.Test.YtpldeejagomfjaaLstL
import Derived.Test.YtpldeejagomfjaaLstRt
namespace Go.Proofs.Ytpldeejagomfjaa
open Go.RowKit

theorem live_ret (ao : Option Addr) (cap : Nat) (es : List Ent) (w : World) (hl : es.length ≤ 1000) (hes : EntsAt w ao es) :
    Calls Try.prog 66 #[.slice ao es.length cap] w fun e w' => RetL w w' e (liveE es) := by
  refine (live_any ao cap es w hl hes).mono ?_
  rintro e w' ⟨v, rfl, h⟩
  exact h.ret
theorem not_false_true {b : Bool} (h : (!b) = false) : b = true := by simpa using h
def eAg : Ent := ⟨⟨#[97]⟩, ⟨#[]⟩, true⟩
theorem same_ret (W : World) (xo yo : Option Addr) (xc yc : Nat) (es : List Ent) (h1 : es.length ≤ 9223372036854775807) (h2 : EntsAt W xo es) (h3 : EntsAt W yo es) : Calls Try.prog 26 #[.slice xo es.length xc, .slice yo es.length yc] W fun e w' => e = .returned (.bool true) ∧ Ext W w' := by
  refine (sameEntries_eq xo yo xc yc es W h1 h2 h3).mono ?_
  rintro e w' ⟨rfl, q, rfl⟩
  exact ⟨rfl, (Ext.refl W).drewN q⟩
theorem two_nil_ret (W : World) (ao : Option Addr) (ca : Nat) (es : List Ent) (hl : es.length ≤ 1000) (hc : es.length ≤ ca) (hA : EntsAt W ao es) : Calls Try.prog 62 #[.slice ao es.length ca, .slice none 0 0] W fun e w' => RetL W w' e es := by
  have := two_ret ao none ca 0 es [] W hl (by simp) hc (by simp) hA (fun h => absurd rfl h)
  rw [two_nil] at this; exact this
theorem nil_two_ret (W : World) (ao : Option Addr) (ca : Nat) (es : List Ent) (hl : es.length ≤ 1000) (hc : es.length ≤ ca) (hA : EntsAt W ao es) : Calls Try.prog 62 #[.slice none 0 0, .slice ao es.length ca] W fun e w' => RetL W w' e es := by
  have := two_ret none ao 0 ca [] es W (by simp) hl (by simp) hc (fun h => absurd rfl h) hA
  rw [nil_two] at this; exact this

/-- The closed part: a world behind it. -/
theorem closed_two (w : World) : Calls Try.prog 62 #[.slice none 0 0, .slice (some ⟨w.heap.size, 0, none⟩) 1 1] (w.alloc (.cells #[.string ⟨#[97]⟩, .string ⟨#[]⟩, .bool false] 30)) fun e w' => (∃ ao cap, e = .returned (.slice ao 1 cap)) ∧ Ext w w' := by
  refine (nil_two_ret _ (some ⟨w.heap.size, 0, none⟩) 1 [eA] (by simp) (by simp) (ents_blk [eA] (Blk.new w _ _) rfl)).mono ?_
  rintro e w' ⟨ao, cap, rfl, _, _, hx⟩
  exact ⟨⟨ao, cap, rfl⟩, ((Ext.refl w).alloc _).trans hx⟩
theorem closed_live (w : World) : Calls Try.prog 66 #[.slice (some ⟨w.heap.size, 0, none⟩) 1 1] (w.alloc (.cells #[.string ⟨#[97]⟩, .string ⟨#[]⟩, .bool true] 30)) fun e w' => (∃ ao cap, e = .returned (.slice ao 0 cap)) ∧ Ext w w' := by
  refine (live_ret (some ⟨w.heap.size, 0, none⟩) 1 [eAg] _ (by simp) (ents_blk [eAg] (Blk.new w _ _) rfl)).mono ?_
  rintro e w' ⟨ao, cap, rfl, _, _, hx⟩
  exact ⟨⟨ao, cap, rfl⟩, ((Ext.refl w).alloc _).trans hx⟩

/-- Three lists in a block of their own. -/
theorem lists_blk {w : World} {b : Nat} {t : TypeId} (A B C : LE) (h : Blk w b #[.slice A.ao A.es.length A.cap, .slice B.ao B.es.length B.cap, .slice C.ao C.es.length C.cap] t)
    (hA : A.es.length ≤ A.cap ∧ EntsAt w A.ao A.es) (hB : B.es.length ≤ B.cap ∧ EntsAt w B.ao B.es) (hC : C.es.length ≤ C.cap ∧ EntsAt w C.ao C.es) : ListsAt w (some ⟨b, 0, none⟩) [A, B, C] := by
  intro _
  refine ⟨b, 0, rfl, fun i l hl => ?_⟩
  rw [Nat.zero_add, h.cell]
  match i with
  | 0 => simp at hl; subst hl; exact ⟨rfl, hA⟩
  | 1 => simp at hl; subst hl; exact ⟨rfl, hB⟩
  | 2 => simp at hl; subst hl; exact ⟨rfl, hC⟩
  | n + 3 => simp at hl
theorem alls_three {A B C : LE} (hA : Ris A.es) (hB : Ris B.es) (hC : Ris C.es) : alls [A, B, C] = twoE (twoE A.es B.es) C.es := by
  show putsE (putsE (alls [C]) B.es) A.es = _
  rw [show alls [C] = C.es from allE_one hC, puts_two hB hC, puts_two hA (Ris.two _ _ hB hC), two_assoc hA hB hC]

set_option maxRecDepth 20000 in
set_option maxHeartbeats 4000000 in
theorem topMerge_any (ao bo co : Option Addr) (ca cb cc : Nat) (xs ys zs : List Ent) (w : World) (hlx : xs.length ≤ 9223372036854775807) (hly : ys.length ≤ 9223372036854775807) (hlz : zs.length ≤ 9223372036854775807)
    (hca : xs.length ≤ ca) (hcb : ys.length ≤ cb) (hcc : zs.length ≤ cc) (hA : EntsAt w ao xs) (hB : EntsAt w bo ys) (hC : EntsAt w co zs) :
    Calls Try.prog 14 #[.slice ao xs.length ca, .slice bo ys.length cb, .slice co zs.length cc] w fun e w' => e = .returned (.bool true) ∧ Ext w w' := by
  have t1 : True := trivial
  have t2 : True := trivial
  have t3 : True := trivial
  go_enter Try.func14, Try.ntmps14
  go_wp2_with (first
    | (go_at_call_of 62 (Value.slice none 0 0); refine (closed_two w).mono ?_; rintro e w1 ⟨⟨o1, k1, rfl⟩, hx1⟩)
    | (go_at_call 66; refine (closed_live w1).mono ?_; rintro e w2 ⟨⟨o2, k2, rfl⟩, hx2'⟩; have hx2 := hx1.trans hx2'; clear hx2')
    | (go_at_call 79; have _t := t1; refine (rising_any ao ca xs _ hlx (hA.ext hx2)).mono ?_; rintro e w3 ⟨⟨b1, rfl, hb1⟩, q1, hw3⟩; have hx3 : Ext w w3 := (by rw [hw3]; exact hx2.drewN q1); clear t1 hw3)
    | (go_at_call 79; have _t := t2; refine (rising_any bo cb ys _ hly (hB.ext hx3)).mono ?_; rintro e w4 ⟨⟨b2, rfl, hb2⟩, q2, hw4⟩; have hx4 : Ext w w4 := (by rw [hw4]; exact hx3.drewN q2); clear t2 hw4)
    | (go_at_call 79; have _t := t3; refine (rising_any co cc zs _ hlz (hC.ext hx4)).mono ?_; rintro e w5 ⟨⟨b3, rfl, hb3⟩, q3, hw5⟩; have hx5 : Ext w w5 := (by rw [hw5]; exact hx4.drewN q3); clear t3 hw5))
  · go_ret
    exact ⟨rfl, by first | exact hx5 | exact hx4 | exact hx3⟩
  rotate_left
  · go_ret
    exact ⟨rfl, by first | exact hx5 | exact hx4 | exact hx3⟩
  · go_ret
    exact ⟨rfl, by first | exact hx5 | exact hx4 | exact hx3⟩
  obtain ⟨l1, rx⟩ := hb1 (by first | assumption | exact not_false_true (by assumption))
  obtain ⟨l2, ry⟩ := hb2 (by first | assumption | exact not_false_true (by assumption))
  obtain ⟨l3, rz⟩ := hb3 (by first | assumption | exact not_false_true (by assumption))
  have n1 : xs.length ≤ 20 := by unfold light at l1; simp at l1; exact l1.1
  have n2 : ys.length ≤ 20 := by unfold light at l2; simp at l2; exact l2.1
  have n3 : zs.length ≤ 20 := by unfold light at l3; simp at l3; exact l3.1
  have m1 := two_length xs ys
  have m2 := two_length ys zs
  have m3 := two_length (twoE xs ys) zs
  have HE1 : Hid (twoE xs (twoE ys zs) = twoE (twoE xs ys) zs) := (two_assoc rx ry rz).symm
  have HG : Hid (∀ e ∈ xs, getE (twoE (twoE xs ys) zs) e.key = some e) := fun e he => by
    rw [getE_two _ _ (Ris.two _ _ rx ry) rz, getE_two _ _ rx ry, getE_of_mem rx he]; rfl
  have HS : Hid (twoE xs xs = xs) := two_self rx
  have CZ : Hid (∀ W : World, Ext w W → Calls Try.prog 64 #[.slice (some ⟨W.heap.size, 0, none⟩) 3 3] (W.alloc (.cells #[.slice ao xs.length ca, .slice bo ys.length cb, .slice co zs.length cc] 22)) fun e w' => ∃ o k, e = .returned (.slice o (twoE (twoE xs ys) zs).length k) ∧ EntsAt w' o (twoE (twoE xs ys) zs) ∧ Ext W w') := fun W hx => by
    have e3 := alls_three (A := ⟨xs, ao, ca⟩) (B := ⟨ys, bo, cb⟩) (C := ⟨zs, co, cc⟩) rx ry rz
    dsimp only at e3
    have hal : Ext W (W.alloc (.cells #[.slice ao xs.length ca, .slice bo ys.length cb, .slice co zs.length cc] 22)) := (Ext.refl W).alloc _
    have := all_any 3 (some ⟨W.heap.size, 0, none⟩) 3 [⟨xs, ao, ca⟩, ⟨ys, bo, cb⟩, ⟨zs, co, cc⟩] _ (by simp) (by simp) (by simp)
      ⟨by simp [rx, ry, rz], by simp; omega⟩ (lists_blk ⟨xs, ao, ca⟩ ⟨ys, bo, cb⟩ ⟨zs, co, cc⟩ (Blk.new W _ 22) ⟨hca, (hA.ext hx).ext hal⟩ ⟨hcb, (hB.ext hx).ext hal⟩ ⟨hcc, (hC.ext hx).ext hal⟩)
    rw [e3] at this
    refine this.mono ?_
    rintro e w' ⟨o, k, rfl, _, he, hxx⟩
    exact ⟨o, k, rfl, he, hal.trans hxx⟩
  have k1' : (twoE xs ys).length ≤ 1000 := by omega
  have k2' : (twoE ys zs).length ≤ 1000 := by omega
  have k3' : (twoE (twoE xs ys) zs).length ≤ 1000 := by omega
  clear hb1 hb2 hb3 l1 l2 l3 m1 m2 m3 rx ry rz
  have HX : Hid (∃ X, twoE (twoE xs ys) zs = X) := ⟨_, rfl⟩
  generalize hX : twoE (twoE xs ys) zs = X at *
  generalize hab : twoE xs ys = ab at *
  generalize hbc : twoE ys zs = bc at *
  have HAB : Hid (twoE xs ys = ab) := hab
  have HBC : Hid (twoE ys zs = bc) := hbc
  have HXX : Hid (twoE ab zs = X) := hX
  clear hab hbc hX HX
  have t1 : True := trivial
  have t2 : True := trivial
  go_wp2_with (first
    | (go_at_call_of 62 (Value.slice ao xs.length ca); have _t := t1; refine (two_ret ao bo ca cb xs ys _ (by omega) (by omega) hca hcb (hA.ext hx5) (hB.ext hx5)).mono ?_; rw [HAB.out]; rintro e w6 ⟨o6, c6, rfl, hc6, ha6, hx6⟩; clear t1)
    | (go_at_call_of 62 (Value.slice o6 ab.length c6); refine (two_ret o6 co c6 cc ab zs _ k1' (by omega) hc6 hcc ha6 (hC.ext (hx5.trans hx6))).mono ?_; rw [HXX.out]; rintro e w7 ⟨o7, c7, rfl, hc7, ha7, hx7⟩)
    | (go_at_call_of 62 (Value.slice bo ys.length cb); refine (two_ret bo co cb cc ys zs _ (by omega) (by omega) hcb hcc (hB.ext ((hx5.trans hx6).trans hx7)) (hC.ext ((hx5.trans hx6).trans hx7))).mono ?_; rw [HBC.out]; rintro e w8 ⟨o8, c8, rfl, hc8, ha8, hx8⟩)
    | (go_at_call_of 62 (Value.slice ao xs.length ca); have _t := t2; refine (two_ret ao o8 ca c8 xs bc _ (by omega) k2' hca hc8 (hA.ext (((hx5.trans hx6).trans hx7).trans hx8)) ha8).mono ?_; rw [HE1.out]; rintro e w9 ⟨o9, c9, rfl, hc9, ha9, hx9⟩; clear t2)
    | (go_at_call 64; refine (CZ.out _ ((((hx5.trans hx6).trans hx7).trans hx8).trans hx9)).mono ?_; rintro e w10 ⟨o10, c10, rfl, ha10, hx10⟩))
  have hy : Ext w w10 := ((((hx5.trans hx6).trans hx7).trans hx8).trans hx9).trans hx10
  have a7 := ha7.ext ((hx8.trans hx9).trans hx10)
  have a9 := ha9.ext hx10
  clear hx5 hx6 hx7 hx8 hx9 hx10 ha6 ha7 ha8 ha9 CZ
  have t1 : True := trivial
  have t2 : True := trivial
  go_loopw [11, 12, 13] (fun i _ _ wr => ∃ k : Nat, k ≤ xs.length ∧ i = .int .i64 k ∧ Ext w10 wr) (fun i _ _ _ => xs.length - (intOf i).toNat)
  case atStart => exact ⟨0, Nat.zero_le _, rfl, Ext.refl _⟩
  case round =>
    obtain ⟨k, hk, rfl, hx⟩ := hrel
    by_cases hlt : k < xs.length
    · obtain ⟨b, off, ek, ev, eg, rfl, he, h1, h2, h3⟩ := hA.get hlt
      have hg := HG.out _ (List.mem_of_getElem? he)
      dsimp only at hg
      have CG : Hid (Calls Try.prog 54 #[.slice o7 X.length c7, .string ek] wr fun e w' => e = .returned (.tuple #[.agg #[.string ek, .string ev, .bool eg], .bool true]) ∧ Ext wr w') := by
        refine (refGet_any o7 c7 X ek wr (by omega) (a7.ext hx)).mono ?_
        rintro e w' ⟨rfl, hh⟩
        exact ⟨by rw [hg]; rfl, hh⟩
      have g1 := (hy.trans hx).cell h1
      have H1 : Hid (w.cell? ⟨b, off + k * 3, none⟩ = some (.string ek) ∧ w.cell? ⟨b, off + k * 3 + 1, none⟩ = some (.string ev) ∧ w.cell? ⟨b, off + k * 3 + 2, none⟩ = some (.bool eg)) := ⟨h1, h2, h3⟩
      clear he hg h1 h2 h3 hA hB hC
      go_wp2_with (go_at_call 54; refine CG.out.mono ?_; rintro e w11 ⟨rfl, hx11⟩)
      have hz := (hy.trans hx).trans hx11
      have c1 := hz.cell H1.out.1
      have c2 := hz.cell H1.out.2.1
      have c3 := hz.cell H1.out.2.2
      have hbl : b < w11.heap.size := by
        rcases Nat.lt_or_ge b w11.heap.size with h' | h'
        · exact h'
        · simp [World.cell?, Array.getElem?_eq_none h'] at c1
      have hbn : ¬ b = w11.heap.size := by omega
      clear g1
      go_wp2_with fail
      go_quiet (fail)
      go_wp2
      go_roundw
      case rel => exact ⟨k + 1, by omega, by go_num, ((hx.trans hx11).alloc _).drewN _⟩
      case measure => simp [intOf]; omega
    · have hw0 := hy.trans hx
      have b7 := a7.ext hx
      have b9 := a9.ext hx
      have b10 := ha10.ext hx
      have bA := hA.ext hw0
      clear hA hB hC a7 a9 ha10
      go_wp2_with (first
        | (go_at_call_of 26 (Value.slice o7 X.length c7); have _t := t1; refine (same_ret _ o7 o9 c7 c9 X (by omega) b7 b9).mono ?_; rintro e w11 ⟨rfl, hx11⟩; clear t1)
        | (go_at_call_of 26 (Value.slice o7 X.length c7); have _t := t2; refine (same_ret _ o7 o10 c7 c10 X (by omega) (b7.ext hx11) (b10.ext hx11)).mono ?_; rintro e w12 ⟨rfl, hx12⟩; clear t2))
      have e12 := hx11.trans hx12
      have bA12 := bA.ext e12
      have t3 : True := trivial
      have t4 : True := trivial
      have t5 : True := trivial
      have t6 : True := trivial
      have t7 : True := trivial
      have t8 : True := trivial
      have HSE : Hid (∀ W oo c, EntsAt W oo xs → Ext w12 W → Calls Try.prog 26 #[.slice oo xs.length c, .slice ao xs.length ca] W fun e w' => e = .returned (.bool true) ∧ Ext W w') := fun W oo c h hx => same_ret W oo ao c ca xs (by omega) h (bA12.ext hx)
      have CAA : Hid (Calls Try.prog 62 #[.slice ao xs.length ca, .slice ao xs.length ca] w12 fun e w' => RetL w12 w' e xs) := by
        have := two_ret ao ao ca ca xs xs w12 (by omega) (by omega) hca hca bA12 bA12
        rw [HS.out] at this; exact this
      have CAN : Hid (∀ W, Ext w12 W → Calls Try.prog 62 #[.slice ao xs.length ca, .slice none 0 0] W fun e w' => RetL W w' e xs) := fun W h => two_nil_ret W ao ca xs (by omega) hca (bA12.ext h)
      have CNA : Hid (∀ W, Ext w12 W → Calls Try.prog 62 #[.slice none 0 0, .slice ao xs.length ca] W fun e w' => RetL W w' e xs) := fun W h => nil_two_ret W ao ca xs (by omega) hca (bA12.ext h)
      clear b7 b9 b10
      go_wp2_with (first
        | (go_at_call_of 62 (Value.slice ao xs.length ca); have _t := t3; refine CAA.out.mono ?_; rintro e w13 ⟨o13, c13, rfl, hc13, ha13, hx13⟩; clear t3)
        | (go_at_call_of 26 (Value.slice o13 xs.length c13); have _t := t4; refine (HSE.out _ o13 c13 ha13 hx13).mono ?_; rintro e w14 ⟨rfl, hx14⟩; clear t4)
        | (go_at_call_of 62 (Value.slice ao xs.length ca); have _t := t5; refine (CAN.out _ (hx13.trans hx14)).mono ?_; rintro e w15 ⟨o15, c15, rfl, hc15, ha15, hx15⟩; clear t5)
        | (go_at_call_of 26 (Value.slice o15 xs.length c15); have _t := t6; refine (HSE.out _ o15 c15 ha15 ((hx13.trans hx14).trans hx15)).mono ?_; rintro e w16 ⟨rfl, hx16⟩; clear t6)
        | (go_at_call_of 62 (Value.slice none 0 0); have _t := t7; refine (CNA.out _ (((hx13.trans hx14).trans hx15).trans hx16)).mono ?_; rintro e w17 ⟨o17, c17, rfl, hc17, ha17, hx17⟩; clear t7)
        | (go_at_call_of 26 (Value.slice o17 xs.length c17); have _t := t8; refine (HSE.out _ o17 c17 ha17 ((((hx13.trans hx14).trans hx15).trans hx16).trans hx17)).mono ?_; rintro e w18 ⟨rfl, hx18⟩; clear t8))
      go_ret
      exact ⟨rfl, (hw0.trans e12).trans (((((hx13.trans hx14).trans hx15).trans hx16).trans hx17).trans hx18)⟩
end Go.Proofs.Ytpldeejagomfjaa
