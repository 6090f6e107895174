/- TopR. -/
import Derived.Test.YtjeinblcpejpnabGreatDoorDoBJ

/- TopRefuse. -/
namespace Go.Proofs.YtjeinblcpejpnabGreatDoor
open Go.RowKit Go.WideShapes

set_option maxRecDepth 100000 in
set_option maxHeartbeats 1000000 in
theorem number_any (f : Int) (w : World) : Calls Tryz.prog 31 #[errV f] w fun e w' => e = .returned (.int .i64 f) ∧ w = w' := by
  have hta : ∀ (v : Value) (w : World), (Instr.typeAssert (.iface 88 v) 28 88 true).run Tryz.prog w = .ok (.tuple #[v, .bool true]) w := fun _ _ => by kernel_rfl
  unfold errV
  by_cases hf : f = 0
  · rw [if_pos hf]; subst hf
    go_enter Tryz.func31, Tryz.ntmps31
    go_wp2
    go_ret
    exact ⟨rfl, rfl⟩
  · rw [if_neg hf]
    clear hf
    go_enter Tryz.func31, Tryz.ntmps31
    go_wp2
    go_ret
    exact ⟨rfl, rfl⟩
theorem Up.chk {n : Nat} {w : World} {S : List Nat} {sb cb : Nat} {m : Man} {k : Nat} {R : List Ent} (h : Up n w S sb cb m k R) {ao : Option Addr} {cap : Nat} {l : List Ent} (hl : Aside3 w S ao l) : Calls Tryz.prog 15 #[.pointer (some ⟨sb, 0, none⟩), .slice ao l.length cap] w fun e w' => e = .returned (errV (writeF R l)) ∧ Ext w w' := by
  rcases hl.ex with rfl | hl
  · obtain ⟨M, a, x, N, O, h1, h2, _⟩ := h.ex
    have hw : writeF R [] = 2 := by unfold writeF; rw [if_pos (by simp)]
    refine (check_nil w S sb cb M m a x ao cap h1 (by unfold downB; rw [h2.nst.up]; rfl)).mono fun e w' hh => ?_
    rw [hw, hh.2]
    exact ⟨hh.1, Ext.refl _⟩
  · exact h.check hl
theorem Up.wrBad {n : Nat} {w : World} {S : List Nat} {sb cb : Nat} {m : Man} {k : Nat} {R : List Ent} (h : Up n w S sb cb m k R) {ao : Option Addr} {cap : Nat} {l : List Ent} (hl : Aside3 w S ao l) (hw : ¬ writeF R l = 0) : Calls Tryz.prog 17 #[.pointer (some ⟨sb, 0, none⟩), .slice ao l.length cap] w fun e w' => e = .returned (.iface 88 (.int .i64 (writeF R l))) ∧ Ext w w' := by
  rcases hl.ex with rfl | hl
  · obtain ⟨M, a, x, N, O, h1, h2, _⟩ := h.ex
    have hw : writeF R [] = 2 := by unfold writeF; rw [if_pos (by simp)]
    refine (write_nil w S sb cb M m a x ao cap h1 (by unfold downB; rw [h2.nst.up]; rfl)).mono fun e w' hh => ?_
    rw [hw, hh.2]
    exact ⟨hh.1, Ext.refl _⟩
  · exact h.refuse hl hw
theorem RetE.len {w w' : World} {v : Value} {es : List Ent} (h : RetE w w' v es) : ∃ ao c, v = .slice ao es.length c ∧ EntsAt w' ao es ∧ Ext w w' := by
  obtain ⟨ao, c, h1, _, h3, _, h5⟩ := h.ex
  exact ⟨ao, c, h1, h3, h5⟩
theorem Up.few {n : Nat} {w : World} {S : List Nat} {sb cb : Nat} {m : Man} {k : Nat} {R : List Ent} (h : Up n w S sb cb m k R) : R.length ≤ 40 := by
  obtain ⟨M, a, x, N, O, h1, h2, h3, _⟩ := h.ex
  rw [← h3]; exact h2.rows
set_option maxRecDepth 20000 in
set_option maxHeartbeats 4000000 in
theorem topRefuse_any (ao : Option Addr) (cap : Nat) (acs : List ActE) (bo : Option Addr) (cb' : Nat) (l : List Ent) (w : World) (hg : GlobT w) (hl : acs.length ≤ 9223372036854775807) (has : ActsAt w ao acs) (hll : l.length ≤ 9223372036854775807) (hes : EntsAt w bo l) :
    Calls Tryz.prog 5 #[.slice ao acs.length cap, .slice bo l.length cb'] w fun e w' => e = .returned (.bool true) ∧ Ext w w' := by
  have HW : Hid (Calls Tryz.prog 26 #[] w fun e w' => e = .returned (.bool true) ∧ Ext w w') := works_any w hg
  cases hf : fillB acs with
  | false =>
    have HF : Hid (∀ W, Ext w W → Calls Tryz.prog 27 #[.slice ao acs.length cap] W fun e w' => e = .returned (.tuple #[.pointer none, .pointer none, .bool false]) ∧ W = w') := fun W hx => (filled_no ao cap acs W hl (has.ext hx) hf).mono fun _ _ h => ⟨h.1, h.2.symm⟩
    clear has hes hf hg
    go_enter Tryz.func5, Tryz.ntmps5
    go_wp2_with (first
      | (go_at_call 26; refine HW.out.mono ?_; rintro e w1 ⟨rfl, hx1⟩)
      | (go_at_call 27; refine (HF.out _ hx1).mono ?_; rintro e w2 ⟨rfl, rfl⟩))
    go_ret
    exact ⟨rfl, hx1⟩
  | true =>
    have HF : Hid (∀ W, Ext w W → Calls Tryz.prog 27 #[.slice ao acs.length cap] W fun e w' => ∃ cb sb S m, e = .returned (.tuple #[.pointer (some ⟨cb, 0, none⟩), .pointer (some ⟨sb, 0, none⟩), .bool true]) ∧ Up 800 w' S sb cb m (weakN acs) (fillR acs) ∧ Ext w w' ∧ ∀ b ∈ S, w.heap.size ≤ b) := fun W hx => (filled_yes ao cap acs W (hg.ext hx) hl (has.ext hx) hf).mono fun _ _ h => by
      obtain ⟨cb, sb, S, m, h1, h2, h3, h4⟩ := h.ex
      exact ⟨cb, sb, S, m, h1, h2, hx.trans h3, fun b hb => Nat.le_trans hx.size (h4 b hb)⟩
    have HL : Hid (∀ W, Ext w W → Calls Tryz.prog 30 #[.slice bo l.length cb', .int .i64 8] W fun e w' => e = .returned (.bool (light l 8)) ∧ W = w') := fun W hx => (light_any bo cb' l 8 W (by omega) hll (hes.ext2 hx)).mono fun _ _ h => ⟨h.1, h.2.symm⟩
    generalize weakN acs = k at *
    generalize fillR acs = R at *
    cases hli : light l 8 with
    | false =>
      rw [hli] at HL
      clear has hes hf hg hli
      go_enter Tryz.func5, Tryz.ntmps5
      go_wp2_with (first
        | (go_at_call 26; refine HW.out.mono ?_; rintro e w1 ⟨rfl, hx1⟩)
        | (go_at_call 27; refine (HF.out _ hx1).mono ?_; rintro e w2 ⟨cb, sb, S, m, rfl, hU2, hx2, hS2⟩)
        | (go_at_call 30; refine (HL.out _ hx2).mono ?_; rintro e w3 ⟨rfl, rfl⟩))
      go_ret
      exact ⟨rfl, hx2⟩
    | true =>
      rw [hli] at HL
      have HA : Hid (∀ W S, Ext w W → (∀ b ∈ S, w.heap.size ≤ b) → Aside3 W S bo l) := fun W S hx hS => Aside3.old hes hx hS
      clear has hes hf hg hli
      have HR : Hid (∀ W S sb cb m, Ext w W → Up 800 W S sb cb m k R → Calls Tryz.prog 29 #[.pointer (some ⟨sb, 0, none⟩)] W fun e w' => ∃ ro rc, e = .returned (.slice ro R.length rc) ∧ EntsAt w' ro R ∧ Ext W w' ∧ Ext w w') := fun W S sb cb m hx hU => hU.rows.mono fun _ _ h => by
        obtain ⟨v, rfl, h2⟩ := h
        obtain ⟨ro, rc, rfl, h3, h4⟩ := h2.len
        exact ⟨ro, rc, rfl, h3, h4, hx.trans h4⟩
      have HCK : Hid (∀ W S sb cb m, Ext w W → (∀ b ∈ S, w.heap.size ≤ b) → Up 800 W S sb cb m k R → Calls Tryz.prog 15 #[.pointer (some ⟨sb, 0, none⟩), .slice bo l.length cb'] W fun e w' => e = .returned (errV (writeF R l)) ∧ Ext W w' ∧ Ext w w') := fun W S sb cb m hx hS hU => (hU.chk (HA.out W S hx hS)).mono fun _ _ h => ⟨h.1, h.2, hx.trans h.2⟩
      have HNB : Hid (∀ W, Calls Tryz.prog 31 #[errV (writeF R l)] W fun e w' => e = .returned (.int .i64 (writeF R l)) ∧ W = w') := fun W => number_any _ W
      by_cases hw : writeF R l = 0
      · have HWR : Hid (∀ W S sb cb m, Ext w W → (∀ b ∈ S, w.heap.size ≤ b) → Up 800 W S sb cb m k R → Calls Tryz.prog 17 #[.pointer (some ⟨sb, 0, none⟩), .slice bo l.length cb'] W fun e w' => e = .returned .nilIface ∧ Ext w w') := fun W S sb cb m hx hS hU => (hU.wr (by omega) (HA.out W S hx hS)).mono fun _ _ h => by
          obtain ⟨h1, h2⟩ := h
          obtain ⟨_, _, _, q, _⟩ := h2.far hS hx
          rw [hw] at h1
          exact ⟨h1, q⟩
        rw [hw] at HCK HNB
        have HCK' : Hid (∀ W S sb cb m, Ext w W → (∀ b ∈ S, w.heap.size ≤ b) → Up 800 W S sb cb m k R → Calls Tryz.prog 15 #[.pointer (some ⟨sb, 0, none⟩), .slice bo l.length cb'] W fun e w' => e = .returned .nilIface ∧ Ext W w' ∧ Ext w w') := HCK
        have HNB' : Hid (∀ W, Calls Tryz.prog 31 #[.nilIface] W fun e w' => e = .returned (.int .i64 0) ∧ W = w') := HNB
        clear HCK HNB hw
        go_enter Tryz.func5, Tryz.ntmps5
        go_wp2_with (first
          | (go_at_call 26; refine HW.out.mono ?_; rintro e w1 ⟨rfl, hx1⟩)
          | (go_at_call 27; refine (HF.out _ hx1).mono ?_; rintro e w2 ⟨cb, sb, S, m, rfl, hU2, hx2, hS2⟩)
          | (go_at_call 30; refine (HL.out _ hx2).mono ?_; rintro e w3 ⟨rfl, rfl⟩)
          | (go_at_call 29; refine (HR.out _ _ _ _ _ hx2 hU2).mono ?_; rintro e w4 ⟨ro, rc, rfl, hR4, hx4, hX4⟩; have hU4 := hU2.ext hx4)
          | (go_at_call 15; refine (HCK'.out _ _ _ _ _ hX4 hS2 hU4).mono ?_; rintro e w5 ⟨rfl, hx5, hX5⟩; have hU5 := hU4.ext hx5)
          | (go_at_call 17; refine (HWR.out _ _ _ _ _ hX5 hS2 hU5).mono ?_; rintro e w6 ⟨rfl, hX6⟩)
          | (go_at_call 31; refine (HNB'.out _).mono ?_; rintro e w7 ⟨rfl, rfl⟩))
        go_ret
        exact ⟨rfl, hX6⟩
      · have HWR : Hid (∀ W S sb cb m, Ext w W → (∀ b ∈ S, w.heap.size ≤ b) → Up 800 W S sb cb m k R → Calls Tryz.prog 17 #[.pointer (some ⟨sb, 0, none⟩), .slice bo l.length cb'] W fun e w' => e = .returned (.iface 88 (.int .i64 (writeF R l))) ∧ Ext W w' ∧ Ext w w') := fun W S sb cb m hx hS hU => (hU.wrBad (HA.out W S hx hS) hw).mono fun _ _ h => ⟨h.1, h.2, hx.trans h.2⟩
        have hev : errV (writeF R l) = .iface 88 (.int .i64 (writeF R l)) := by unfold errV; rw [if_neg hw]
        rw [hev] at HCK HNB
        have HOP : Hid (∀ W S sb cb m, Ext w W → Up 800 W S sb cb m k R → Calls Tryz.prog 11 #[.pointer (some ⟨cb, 0, none⟩)] W fun e w' => ∃ tb T, e = .returned (.tuple #[.pointer (some ⟨tb, 0, none⟩), .nilIface]) ∧ Up 800 w' T tb cb m k R ∧ Ext W w' ∧ Ext w w') := fun W S sb cb m hx hU => hU.open.mono fun _ _ h => by
          obtain ⟨tb, T, h1, h2, h3, _⟩ := h
          exact ⟨tb, T, h1, h2, h3, hx.trans h3⟩
        have HSE : Hid (∀ W a1 a2 c1 c2 S sb cb m, Up 800 W S sb cb m k R → EntsAt W a1 R → EntsAt W a2 R → Ext w W → Calls Tryz.prog 25 #[.slice a1 R.length c1, .slice a2 R.length c2] W fun e w' => e = .returned (.bool true) ∧ Ext W w' ∧ Ext w w') := fun W a1 a2 c1 c2 S sb cb m hU h1 h2 hx => (sameEntries_eq a1 a2 c1 c2 R W (by have := hU.few; omega) h1 h2).mono fun _ _ h => by
          obtain ⟨h1, q, rfl⟩ := h
          exact ⟨h1, (Ext.refl _).drewN q, hx.drewN q⟩
        clear hw hev HA
        generalize writeF R l = f at *
        go_enter Tryz.func5, Tryz.ntmps5
        go_wp2_with (first
          | (go_at_call 26; refine HW.out.mono ?_; rintro e w1 ⟨rfl, hx1⟩)
          | (go_at_call 27; refine (HF.out _ hx1).mono ?_; rintro e w2 ⟨cb, sb, S, m, rfl, hU2, hx2, hS2⟩)
          | (go_at_call 30; refine (HL.out _ hx2).mono ?_; rintro e w3 ⟨rfl, rfl⟩)
          | (go_at_call 29; refine (HR.out _ _ _ _ _ hXa hUb).mono ?_; rintro e wb ⟨rob, rcb, rfl, hRb, hxb, hXb⟩; have hRc := hRa.ext2 (hxa.trans hxb); have hUc := hUb.ext hxb)
          | (go_at_call 25; refine (HSE.out _ _ _ _ _ _ _ _ _ hUc hRb hRc hXb).mono ?_; rintro e wc ⟨rfl, hxc, hXc⟩)
          | (go_at_call 29; refine (HR.out _ _ _ _ _ hX8 hU8).mono ?_; rintro e w9 ⟨ro9, rc9, rfl, hR9, hx9, hX9⟩; have hR4' := hR8.ext2 hx9; have hU9 := hU8.ext hx9)
          | (go_at_call 25; refine (HSE.out _ _ _ _ _ _ _ _ _ hU9 hR9 hR4' hX9).mono ?_; rintro e wa ⟨rfl, hxa, hXa⟩; have hRa := hR4'; have hUb := (hT8.ext hx9).ext hxa)
          | (go_at_call 29; refine (HR.out _ _ _ _ _ hx2 hU2).mono ?_; rintro e w4 ⟨ro, rc, rfl, hR4, hx4, hX4⟩; have hU4 := hU2.ext hx4)
          | (go_at_call 15; refine (HCK.out _ _ _ _ _ hX4 hS2 hU4).mono ?_; rintro e w5 ⟨rfl, hx5, hX5⟩; have hU5 := hU4.ext hx5; have hR5 := hR4.ext2 hx5)
          | (go_at_call 17; refine (HWR.out _ _ _ _ _ hX5 hS2 hU5).mono ?_; rintro e w6 ⟨rfl, hx6, hX6⟩; have hU6 := hU5.ext hx6; have hR6 := hR5.ext2 hx6)
          | (go_at_call 31; refine (HNB.out _).mono ?_; rintro e w7 ⟨rfl, rfl⟩)
          | (go_at_call 11; refine (HOP.out _ _ _ _ _ hX6 hU6).mono ?_; rintro e w8 ⟨tb, T, rfl, hT8, hx8, hX8⟩; have hU8 := hU6.ext hx8; have hR8 := hR6.ext2 hx8))
        go_ret
        exact ⟨rfl, hXc⟩
end Go.Proofs.YtjeinblcpejpnabGreatDoor
