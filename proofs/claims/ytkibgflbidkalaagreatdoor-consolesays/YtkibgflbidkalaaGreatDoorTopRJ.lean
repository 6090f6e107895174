/- FmtA StdA UpA WrkA DoA DoB TopR. -/
import Derived.Test.YtkibgflbidkalaaGreatDoorStoOJ
import Derived.Test.YtkibgflbidkalaaGreatDoorActAJ

/- A new chip is formatted. -/
namespace Go.Proofs.YtkibgflbidkalaaGreatDoor
open Go.RowKit Go.WideShapes

def fM1 : CM := wipeM newM 2 []
def fM2 : CM := wipeM fM1 0 []
def fm : Man := ⟨1, 2, [], []⟩
def fM3 : CM := noteM fM2 0 (manTxt fm)
def fM : CM := wipeM fM3 1 []
theorem fm_ok : manFault fm = 0 := by decide +kernel
theorem f1_e : eraseE newM 2 = 0 ∧ eraseM newM 2 = fM1 := by
  have := erase_nst (M := newM) (b := 2) rfl (by omega) rfl rfl
  rw [if_neg (by decide), if_neg (by decide)] at this
  exact this
theorem f2_e : eraseE fM1 0 = 0 ∧ eraseM fM1 0 = fM2 := by
  have := erase_nst (M := fM1) (b := 0) rfl (by omega) rfl rfl
  rw [if_neg (by decide), if_neg (by decide)] at this
  exact this
theorem f2_nst : Nst fM2 0 none := new_nst.keep2 rfl (fun b hb => by simp [fM2, fM1, wipeM, upd, newM]) (fun b _ => rfl) (fun b _ => rfl)
theorem f3_ok : noteE fM2 0 (manTxt fm) = 0 ∧ Nst fM3 0 (some fm) ∧ fM3.left = -1 := by
  rcases (note_nst f2_nst fm_ok (fun _ h => by cases h)).end_ with ⟨h1, h2, h3⟩ | ⟨_, h2, _⟩
  · exact ⟨h1, h2, h3 (by decide)⟩
  · exact absurd (show fM2.left < 0 by decide) h2
theorem f3_far : NoteFar fM2 0 (manTxt fm) := note_far f2_nst (Nat.le_trans (manTxt_le fm_ok).1 (by omega))
theorem f3_wk : fM3.wk = fun _ => false := f3_far.wk
theorem f3_bd : fM3.bd = fun _ => false := f3_far.bd
theorem f4_e : eraseE fM3 1 = 0 ∧ eraseM fM3 1 = fM := by
  have hl := f3_ok.2.2
  have := erase_nst (M := fM3) (b := 1) f3_ok.2.1.up (by omega) (by rw [f3_bd]) (by rw [f3_wk])
  rw [if_neg (by omega), if_neg (by omega)] at this
  have ht : tickM fM3 = fM3 := by unfold tickM; rw [if_neg (by omega)]
  rw [ht] at this
  exact this
theorem f_inv : Inv 4 fM fm 0 [] [] [] := by
  obtain ⟨_, hN, hl⟩ := f3_ok
  obtain ⟨p, hp1, hp2⟩ := hN.new
  have h0 : fM.pg 0 = fM3.pg 0 := by simp [fM, wipeM, upd]
  have h1 : fM.pg 1 = [] := by simp [fM, wipeM, upd]
  refine ⟨⟨by omega, hN.up, fun b hb => hN.sound b hb, fun b hb => ?_, p, by rw [pageM_same h0]; exact hp1, fun b q m' hb hne hq => ?_⟩, fm_ok, by decide, fun b => ?_, rfl, rfl, by simp, by simp, ⟨2, rfl, LogAt.blank ?_⟩, Ris.nil, by simp [tabsE], by simp, by simp, by decide, by decide, fun b hb => ?_, ?_⟩
  · rcases (show b = 0 ∨ b = 1 by omega) with rfl | rfl
    · rw [h0]; exact hN.len 0 (by omega)
    · rw [h1]; simp
  · rcases (show b = 0 ∨ b = 1 by omega) with rfl | rfl
    · rw [pageM_same h0] at hq; exact hp2 0 q m' hb hne hq
    · rw [pageM_pg, h1] at hq; have := pgM_lt hq; simp at this
  · have := (note_nst f2_nst fm_ok (fun _ h => by cases h)).wr
    have h2 : ∀ b, fM2.wr b ≤ 2 := fun b => Nat.le_trans (upd_wr fM1.wr 0 b) (Nat.succ_le_succ (upd_wr newM.wr 2 b))
    have h3 : ∀ b, fM3.wr b ≤ 3 := fun b => by have := this b; have := h2 b; show (noteM fM2 0 (manTxt fm)).wr b ≤ 3; omega
    have := upd_wr fM3.wr 1 b
    have := h3 b
    show upd fM3.wr 1 (fM3.wr 1 + 1) b ≤ 4
    omega
  · show upd fM3.pg 1 [] 2 = []
    rw [upd_other _ _ _ (by omega)]
    exact (f3_far.pg 2 (by omega)).trans rfl
  · have : fM3.bd b = true := hb
    rw [f3_bd] at this; cases this
  · show wkN fM3.wk ≤ 6
    rw [f3_wk]; decide
theorem f_claim : claimS rdErase newM [0] = ⟨fM1, [0, 2], 2, 0⟩ := by
  have hf : freeS newM [0] = some 2 := by decide +kernel
  unfold claimS claimF
  rw [hf]
  show (if (rdErase newM 2).2 = 0 then (⟨(rdErase newM 2).1, [0] ++ [((2 : Nat) : Int)], 2, 0⟩ : CR) else _) = _
  rw [if_pos (show (rdErase newM 2).2 = 0 from f1_e.1)]
  show (⟨eraseM newM 2, [0, 2], 2, 0⟩ : CR) = _
  rw [f1_e.2]
set_option maxRecDepth 20000 in
set_option maxHeartbeats 1000000 in
theorem noteFirst_by (cb : Nat) (A B C D : CM) (w : World) (h : ChipAt w cb A)
    (H1 : Hid (∀ W, ChipAt W cb A → Calls Tryz.prog 24 #[.pointer (some ⟨cb, 0, none⟩), .int .i64 0] W fun e w' => e = .returned .nilIface ∧ ChipAt w' cb B ∧ W.grownBy w' (some cb)))
    (H2 : Hid (∀ W, ChipAt W cb B → Calls Tryz.prog 49 #[.pointer (some ⟨cb, 0, none⟩), .int .i64 0, .agg #[.int .i64 1, .int .i64 2, .slice none 0 0, .slice none 0 0]] W fun e w' => e = .returned (.tuple #[.int .i64 0, .nilIface]) ∧ ChipAt w' cb C ∧ W.grownBy w' (some cb)))
    (H3 : Hid (∀ W, ChipAt W cb C → Calls Tryz.prog 24 #[.pointer (some ⟨cb, 0, none⟩), .int .i64 1] W fun e w' => e = .returned .nilIface ∧ ChipAt w' cb D ∧ W.grownBy w' (some cb))) :
    Calls Tryz.prog 26 #[.pointer (some ⟨cb, 0, none⟩), .int .i64 1, .agg #[.int .i64 1, .int .i64 2, .slice none 0 0, .slice none 0 0]] w fun e w' => e = .returned (.tuple #[.int .i64 0, .nilIface]) ∧ ChipAt w' cb D ∧ Kp w w' [cb] := by
  have hcl := h.lt
  have HB : Hid (Blk (w.alloc (Obj.cells #[.int .i64 1, .int .i64 2, .slice none 0 0, .slice none 0 0] 73)) w.heap.size #[.int .i64 1, .int .i64 2, .slice none 0 0, .slice none 0 0] 73) := Blk.new _ _ _
  have HC : Hid (ChipAt (w.alloc (Obj.cells #[.int .i64 1, .int .i64 2, .slice none 0 0, .slice none 0 0] 73)) cb A) := h.ext ((Ext.refl _).alloc _)
  have HNE : Hid (¬ w.heap.size = cb) := by unfold Hid; omega
  clear h
  go_enter Tryz.func26, Tryz.ntmps26
  go_wp2_with (first
    | (go_at_call 49; refine (H2.out _ hc1).mono ?_; rintro e w2 ⟨rfl, hc2, hg2⟩)
    | (go_at_call 24; refine (H3.out _ hc2).mono ?_; rintro e w3 ⟨rfl, hc3, hg3⟩)
    | (go_at_call 24; refine (H1.out _ HC.out).mono ?_; rintro e w1 ⟨rfl, hc1, hg1⟩; have hb1 := HB.out.grown hg1 HNE.out; have k0 : _ = some (Value.int .i64 1) := hb1.cell 0; have k1 : _ = some (Value.int .i64 2) := hb1.cell 1; have k2 : _ = some (Value.slice none 0 0) := hb1.cell 2; have k3 : _ = some (Value.slice none 0 0) := hb1.cell 3; have hl1 := hb1.lt))
  go_ret2
  refine ⟨rfl, hc3, ?_⟩
  exact (((Kp.ofExt ((Ext.refl w).alloc _) [cb]).trans (Kp.grown hg1)).trans (Kp.grown hg2)).trans (Kp.grown hg3)
theorem f1_wr (b : Nat) : fM1.wr b ≤ 1 := upd_wr newM.wr 2 b
theorem f2_wr (b : Nat) : fM2.wr b ≤ 2 := Nat.le_trans (upd_wr fM1.wr 0 b) (Nat.succ_le_succ (f1_wr b))
theorem f3_wr (b : Nat) : fM3.wr b ≤ 3 := Nat.le_trans ((note_nst f2_nst fm_ok (fun _ h => by cases h)).wr b) (Nat.succ_le_succ (f2_wr b))
theorem wr_ok {M : CM} {n : Nat} (h : ∀ b, M.wr b ≤ n) (hn : n ≤ 1000000000) : WrOk M := fun b _ => Nat.le_trans (h b) hn
theorem f_erase {A B : CM} {b : Int} (hl : A.left ≤ 9223372036854775807) (hw : WrOk A) (h : eraseE A b = 0 ∧ eraseM A b = B) (cb : Nat) (W : World) (hc : ChipAt W cb A) : Calls Tryz.prog 24 #[.pointer (some ⟨cb, 0, none⟩), .int .i64 b] W fun e w' => e = .returned .nilIface ∧ ChipAt w' cb B ∧ W.grownBy w' (some cb) := by
  have := erase_any cb b A W hc hl hw
  rw [h.1, h.2] at this
  exact this
theorem f_note {A C : CM} {m : Man} (hl : A.left ≤ 9223372036854775807) (hw : WrOk A) (hf : manFault m = 0) (h : noteE A 0 (manTxt m) = 0) (ha : noteAt A 0 = 0) (hC : noteM A 0 (manTxt m) = C) (hn : m.nw = []) (ho : m.od = []) (cb : Nat) (W : World) (hc : ChipAt W cb A) : Calls Tryz.prog 49 #[.pointer (some ⟨cb, 0, none⟩), .int .i64 0, .agg #[.int .i64 m.ep, .int .i64 m.lg, .slice none m.nw.length 0, .slice none m.od.length 0]] W fun e w' => e = .returned (.tuple #[.int .i64 0, .nilIface]) ∧ ChipAt w' cb C ∧ W.grownBy w' (some cb) := by
  refine (note_any cb 0 A m none none 0 0 W hc (by omega) hl hw (fun h => absurd hn h) (fun h => absurd ho h) hf).mono ?_
  rintro e w' ⟨(⟨_, rfl⟩ | ⟨hn, _⟩), hc', hg⟩
  · rw [ha]; exact ⟨rfl, hC ▸ hc', hg⟩
  · exact absurd h hn
theorem f1_left : fM1.left ≤ 9223372036854775807 := by decide
theorem f2_left : fM2.left ≤ 9223372036854775807 := by decide
theorem f3_left : fM3.left ≤ 9223372036854775807 := by rw [f3_ok.2.2]; decide
theorem f2_at : noteAt fM2 0 = 0 := by decide
theorem noteFirst_new (cb : Nat) (w : World) (h : ChipAt w cb fM1) :
    Calls Tryz.prog 26 #[.pointer (some ⟨cb, 0, none⟩), .int .i64 1, .agg #[.int .i64 1, .int .i64 2, .slice none 0 0, .slice none 0 0]] w fun e w' => e = .returned (.tuple #[.int .i64 0, .nilIface]) ∧ ChipAt w' cb fM ∧ Kp w w' [cb] :=
  noteFirst_by cb fM1 fM2 fM3 fM w h
    (fun W hc => f_erase f1_left (wr_ok f1_wr (by omega)) f2_e cb W hc)
    (fun W hc => f_note (m := fm) f2_left (wr_ok f2_wr (by omega)) fm_ok f3_ok.1 f2_at rfl rfl rfl cb W hc)
    (fun W hc => f_erase f3_left (wr_ok f3_wr (by omega)) f4_e cb W hc)
theorem f_find (cb : Nat) (w : World) (h : ChipAt w cb newM) : Calls Tryz.prog 21 #[.pointer (some ⟨cb, 0, none⟩)] w fun e w' => e = .returned (.tuple #[.agg #[.int .i64 0, .int .i64 0, .slice none 0 0, .slice none 0 0], .int .i64 0, .iface 39 (.int .i64 4)]) ∧ Ext w w' := by
  refine (find_up cb newM w h rfl).mono ?_
  rw [find_none new_nst]
  rintro e w' ⟨hx, (⟨m', a', a1, c1, a2, c2, hh, _⟩ | ⟨_, rfl⟩)⟩
  · cases hh
  · exact ⟨rfl, hx⟩
theorem f_used (w : World) : Calls Tryz.prog 23 #[.agg #[.int .i64 0, .int .i64 0, .slice none 0 0, .slice none 0 0]] w fun e w' => e = .returned (.pointer (some ⟨w.heap.size + 1, 0, none⟩)) ∧ Blk w' (w.heap.size + 1) (usedC [0]) 99 ∧ Ext w w' :=
  inUse_any ⟨0, 0, [], []⟩ none none 0 0 w (by simp) (by simp [names]) (fun h => absurd rfl h) (fun h => absurd rfl h)
theorem f_claim_any (cb ub : Nat) (w : World) (h : ChipAt w cb newM) (hu : Blk w ub (usedC [0]) 99) (hne : ¬ ub = cb) : Calls Tryz.prog 22 #[.pointer (some ⟨cb, 0, none⟩), .pointer (some ⟨ub, 0, none⟩), .func (.func 24) #[.pointer (some ⟨cb, 0, none⟩)] #[]] w fun e w' => e = .returned (.tuple #[.int .i64 2, .nilIface]) ∧ ChipAt w' cb fM1 ∧ Kp w w' [cb, ub] := by
  refine (claimE_any cb ub newM [0] w h hu hne (by decide) rfl (fun b => Nat.zero_le _)).mono ?_
  intro e w' hC
  have hD := hC.det
  rw [f_claim] at hD
  exact ⟨hD.ret, hD.chip, hD.kept⟩
set_option maxRecDepth 20000 in
set_option maxHeartbeats 1000000 in
theorem format_by (cb : Nat) (A B C : CM) (w : World) (h : ChipAt w cb A)
    (H1 : Hid (Calls Tryz.prog 21 #[.pointer (some ⟨cb, 0, none⟩)] w fun e w' => e = .returned (.tuple #[.agg #[.int .i64 0, .int .i64 0, .slice none 0 0, .slice none 0 0], .int .i64 0, .iface 39 (.int .i64 4)]) ∧ Ext w w'))
    (H2 : Hid (∀ W ub, ChipAt W cb A → Blk W ub (usedC [0]) 99 → ¬ ub = cb → Calls Tryz.prog 22 #[.pointer (some ⟨cb, 0, none⟩), .pointer (some ⟨ub, 0, none⟩), .func (.func 24) #[.pointer (some ⟨cb, 0, none⟩)] #[]] W fun e w' => e = .returned (.tuple #[.int .i64 2, .nilIface]) ∧ ChipAt w' cb B ∧ Kp W w' [cb, ub]))
    (H3 : Hid (∀ W, ChipAt W cb B → Calls Tryz.prog 26 #[.pointer (some ⟨cb, 0, none⟩), .int .i64 1, .agg #[.int .i64 1, .int .i64 2, .slice none 0 0, .slice none 0 0]] W fun e w' => e = .returned (.tuple #[.int .i64 0, .nilIface]) ∧ ChipAt w' cb C ∧ Kp W w' [cb])) :
    Calls Tryz.prog 10 #[.pointer (some ⟨cb, 0, none⟩)] w fun e w' => e = .returned .nilIface ∧ ChipAt w' cb C ∧ Kp w w' [cb] := by
  have hcl := h.lt
  have e1 := eqErr
  have e2 := eqNil
  have HC : Hid (ChipAt w cb A) := h
  have HU : Hid (∀ W, Calls Tryz.prog 23 #[.agg #[.int .i64 0, .int .i64 0, .slice none 0 0, .slice none 0 0]] W fun e w' => e = .returned (.pointer (some ⟨W.heap.size + 1, 0, none⟩)) ∧ Blk w' (W.heap.size + 1) (usedC [0]) 99 ∧ Ext W w') := f_used
  clear h
  go_enter Tryz.func10, Tryz.ntmps10
  go_wp2_with (first
    | (go_at_call 21; refine H1.out.mono ?_; rintro e w1 ⟨rfl, hx1⟩)
    | (go_at_call 23; refine (HU.out _).mono ?_; rintro e w2 ⟨rfl, hb2, hx2⟩; have hz1 := hx1.size; have hX2 : Ext w w2 := (hx1.alloc _).trans hx2; simp only [World.size_alloc] at hb2)
    | (go_at_call 22; refine (H2.out _ _ (HC.out.ext hX2) hb2 (by omega)).mono ?_; rintro e w3 ⟨rfl, hc3, hk3⟩)
    | (go_at_call 26; refine (H3.out _ hc3).mono ?_; rintro e w4 ⟨rfl, hc4, hk4⟩))
  go_ret
  refine ⟨rfl, hc4, ((Kp.ofExt hX2 [cb]).new hk3 (fun x hx => ?_)).trans hk4⟩
  simp at hx
  rcases hx with rfl | rfl
  · simp
  · right; omega
theorem format_new (cb : Nat) (w : World) (h : ChipAt w cb newM) : Calls Tryz.prog 10 #[.pointer (some ⟨cb, 0, none⟩)] w fun e w' => e = .returned .nilIface ∧ ChipAt w' cb fM ∧ Kp w w' [cb] :=
  format_by cb newM fM1 fM w h (f_find cb w h) (fun W ub hc hu hne => f_claim_any cb ub W hc hu hne) (fun W hc => noteFirst_new cb W hc)
end Go.Proofs.YtkibgflbidkalaaGreatDoor

/- The laws' stores: Stored, rows, Manifest. -/
namespace Go.Proofs.YtkibgflbidkalaaGreatDoor
open Go.RowKit Go.WideShapes

end Go.Proofs.YtkibgflbidkalaaGreatDoor

/- A store in use, with no fall ahead: what the laws walk with. -/
namespace Go.Proofs.YtkibgflbidkalaaGreatDoor
open Go.RowKit Go.WideShapes

structure Up (n : Nat) (w : World) (S : List Nat) (sb cb : Nat) (m : Man) (k : Nat) (R : List Ent) : Prop where
  ex : ∃ M a x N O, StoAt w S sb cb M m a x ∧ Inv n M m a (x.ns.map Nd.e) N O ∧ rowsE (x.ns.map Nd.e) N O = R ∧ M.left = -1 ∧ wkN M.wk ≤ k ∧ N.length ≤ 2
theorem Up.ext {n : Nat} {w w' : World} {S : List Nat} {sb cb : Nat} {m : Man} {k : Nat} {R : List Ent} (h : Up n w S sb cb m k R) (hx : Ext w w') : Up n w' S sb cb m k R := by
  obtain ⟨M, a, x, N, O, h1, h2⟩ := h.ex
  exact ⟨M, a, x, N, O, h1.ext hx, h2⟩
structure UpE (n : Nat) (w w' : World) (S : List Nat) (sb cb : Nat) (k : Nat) (R : List Ent) : Prop where
  ex : ∃ S' m, Up n w' S' sb cb m k R ∧ Kp w w' S ∧ ∀ b ∈ S', b ∈ S ∨ w.heap.size ≤ b
theorem OpEnd.up {n : Nat} {w w' : World} {S : List Nat} {sb cb : Nat} {M : CM} {R : List Ent} {P : List Ent → Prop} {Q : CM → Man → List Ent → List Tb → Prop} {e : Ending} {k : Nat} (h : OpEnd n w w' S sb cb M (· = R) P Q e) (hl : M.left = -1) (hk : wkN M.wk ≤ k) (h2 : ∀ M' m' hand' N', Q M' m' hand' N' → N'.length ≤ 2) : e = .returned .nilIface ∧ UpE n w w' S sb cb k R := by
  cases h with
  | ok M' m' a' x' S' N' O' he hs hi hr hl' hq hw hk' hS hQ => exact ⟨he, ⟨S', m', ⟨M', a', x', N', O', hs, hi, hr, by rw [hl' (by omega)]; exact hl, by rw [hw]; exact hk, h2 _ _ _ _ hQ⟩, hk', hS⟩⟩
  | fell M' he hl' => exact absurd (show M.left < 0 by omega) hl'
theorem Up.flush {n : Nat} {w : World} {S : List Nat} {sb cb : Nat} {m : Man} {k : Nat} {R : List Ent} (h : Up n w S sb cb m k R) (hn : n ≤ 80000) : Calls Tryz.prog 60 #[.pointer (some ⟨sb, 0, none⟩)] w fun e w' => e = .returned .nilIface ∧ UpE (n + 9) w w' S sb cb k R := by
  obtain ⟨M, a, x, N, O, h1, h2, h3, h4, h5⟩ := h.ex
  have := flush_any n w S sb cb M m a x N O h1 h2 (by omega) hn
  rw [h3] at this
  exact this.mono fun _ _ hO => hO.up h4 h5.1 (fun _ _ _ _ hq => hq.1)
theorem Up.compact {n : Nat} {w : World} {S : List Nat} {sb cb : Nat} {m : Man} {k : Nat} {R : List Ent} (h : Up n w S sb cb m k R) (hn : n ≤ 80000) : Calls Tryz.prog 61 #[.pointer (some ⟨sb, 0, none⟩)] w fun e w' => e = .returned .nilIface ∧ UpE (n + 3) w w' S sb cb k R := by
  obtain ⟨M, a, x, N, O, h1, h2, h3, h4, h5⟩ := h.ex
  have := compact_any n w S sb cb M m a x N O h1 h2 (by omega) (by omega)
  rw [h3] at this
  exact this.mono fun _ _ hO => hO.up h4 h5.1 (fun _ _ _ _ hq => by rw [hq.1]; simp)
theorem Up.write {n : Nat} {w : World} {S : List Nat} {sb cb : Nat} {m : Man} {k : Nat} {R : List Ent} (h : Up n w S sb cb m k R) (hn : n ≤ 80000) {ao : Option Addr} {cap : Nat} {l : List Ent} (hl : Aside2 w S ao l) (hw : writeF R l = 0) : Calls Tryz.prog 57 #[.pointer (some ⟨sb, 0, none⟩), .slice ao l.length cap] w fun e w' => e = .returned .nilIface ∧ UpE (n + 9) w w' S sb cb k (afterE R l) := by
  obtain ⟨M, a, x, N, O, h1, h2, h3, h4, h5⟩ := h.ex
  have := swrite_any n w S sb cb M m a x N O ao cap l h1 h2 (by omega) hn hl (by rw [h3]; exact hw)
  rw [h3] at this
  exact this.mono fun _ _ hO => hO.up h4 h5.1 (fun _ _ _ _ hq => hq h5.2)
theorem Up.refuse {n : Nat} {w : World} {S : List Nat} {sb cb : Nat} {m : Man} {k : Nat} {R : List Ent} (h : Up n w S sb cb m k R) {ao : Option Addr} {cap : Nat} {l : List Ent} (hl : Aside2 w S ao l) (hw : ¬ writeF R l = 0) : Calls Tryz.prog 57 #[.pointer (some ⟨sb, 0, none⟩), .slice ao l.length cap] w fun e w' => e = .returned (.iface 39 (.int .i64 (writeF R l))) ∧ Ext w w' := by
  obtain ⟨M, a, x, N, O, h1, h2, h3, h4, h5⟩ := h.ex
  have := swrite_bad n w S sb cb M m a x N O ao cap l h1 h2 hl.at_ hl.lt (by rw [h3]; exact hw)
  rw [h3] at this
  exact this
theorem getR_live (o : Option Ent) : getR (liveO o) = getR o := by
  unfold getR
  cases o with
  | none => rfl
  | some e =>
    cases hg : e.gone <;> simp [liveO, hg]
theorem Up.get {n : Nat} {w : World} {S : List Nat} {sb cb : Nat} {m : Man} {k : Nat} {R : List Ent} (h : Up n w S sb cb m k R) (key : ByteArray) (hks : key.size ≤ 4611686018427387904) : Calls Tryz.prog 111 #[.pointer (some ⟨sb, 0, none⟩), .string key] w fun e w' => e = .returned (getR (getE R key)) ∧ Ext w w' := by
  obtain ⟨M, a, x, N, O, h1, h2, h3, h4, h5⟩ := h.ex
  have := sget_any w S sb cb M m a x N O key h1 h2.nst.up h2.nw h2.od h2.tn h2.told (by have := h2.few; have := h2.few'; omega) hks
  have e : getR (getE (x.ns.map Nd.e :: tabsE (N ++ O)).flatten key) = getR (getE R key) := by
    rw [← h3, getE_rows, getE_all (fun l hl => ?_), getR_live]
    · rw [show tabsE (N ++ O) = tabsE N ++ tabsE O from List.map_append ..]
    · obtain ⟨g, _, hL⟩ := h2.lg
      rcases List.mem_cons.1 hl with rfl | hl
      · exact hL.ris.1
      · rcases List.mem_append.1 hl with hl | hl
        · obtain ⟨y, hy, rfl⟩ := List.mem_map.1 hl
          exact tabF_ris (h2.tn y hy).ok
        · obtain ⟨y, hy, rfl⟩ := List.mem_map.1 hl
          exact tabF_ris (h2.told y hy).ok
  rw [e] at this
  exact this
end Go.Proofs.YtkibgflbidkalaaGreatDoor

/- The laws' closed fact. -/
namespace Go.Proofs.YtkibgflbidkalaaGreatDoor
open Go.RowKit Go.WideShapes

end Go.Proofs.YtkibgflbidkalaaGreatDoor

/- The laws' acts on a store: do, Weak. -/
namespace Go.Proofs.YtkibgflbidkalaaGreatDoor
open Go.RowKit Go.WideShapes

def wrR (R l : List Ent) : List Ent := if writeF R l = 0 then afterE R l else R
theorem Up.le {n n' : Nat} {w : World} {S : List Nat} {sb cb : Nat} {m : Man} {k k' : Nat} {R : List Ent} (h : Up n w S sb cb m k R) (hn : n ≤ n') (hk : k ≤ k') : Up n' w S sb cb m k' R := by
  obtain ⟨M, a, x, N, O, h1, h2, h3, h4, h5⟩ := h.ex
  exact ⟨M, a, x, N, O, h1, h2.keep (fun _ _ => rfl) (fun _ _ => rfl) h2.nst.up rfl h2.bw (fun b => Nat.le_trans (h2.wr b) hn) hn, h3, h4, by omega, h5.2⟩
theorem UpE.le {n n' : Nat} {w w' : World} {S : List Nat} {sb cb : Nat} {k k' : Nat} {R : List Ent} (h : UpE n w w' S sb cb k R) (hn : n ≤ n') (hk : k ≤ k') : UpE n' w w' S sb cb k' R := by
  obtain ⟨S', m, h1, h2⟩ := h.ex
  exact ⟨S', m, h1.le hn hk, h2⟩
theorem Up.same {n : Nat} {w w' : World} {S : List Nat} {sb cb : Nat} {m : Man} {k : Nat} {R : List Ent} (h : Up n w S sb cb m k R) (hx : Ext w w') : UpE n w w' S sb cb k R := ⟨S, m, h.ext hx, Kp.ofExt hx S, fun _ hb => .inl hb⟩
theorem UpE.from {n : Nat} {w w1 w' : World} {S : List Nat} {sb cb : Nat} {k : Nat} {R : List Ent} (h : UpE n w1 w' S sb cb k R) (hx : Ext w w1) : UpE n w w' S sb cb k R := by
  obtain ⟨S', m, h1, h2, h3⟩ := h.ex
  have := hx.size
  exact ⟨S', m, h1, (Kp.ofExt hx S).trans h2, fun b hb => by rcases h3 b hb with h' | h'; exact .inl h'; exact .inr (by omega)⟩
theorem Aside2.ext {w w' : World} {S : List Nat} {ao : Option Addr} {l : List Ent} (h : Aside2 w S ao l) (hx : Ext w w') : Aside2 w' S ao l := ⟨h.at_.ext2 hx, fun p e => Nat.lt_of_lt_of_le (h.lt p e) hx.size, h.no⟩
set_option maxRecDepth 20000 in
set_option maxHeartbeats 1000000 in
theorem check_nil (w : World) (S : List Nat) (sb cb : Nat) (M : CM) (m : Man) (a : Nat) (x : SMem) (ao : Option Addr) (cap : Nat) (h : StoAt w S sb cb M m a x) (hd : downB M = false) :
    Calls Tryz.prog 95 #[.pointer (some ⟨sb, 0, none⟩), .slice ao 0 cap] w fun e w' => e = .returned (.iface 39 (.int .i64 2)) ∧ w' = w := by
  have k0 := h.blk.cell 0
  simp [storeC] at k0
  have HD : Hid (Calls Tryz.prog 39 #[.pointer (some ⟨cb, 0, none⟩)] w fun e w' => e = .returned (.bool false) ∧ w = w') := by
    have := down_any cb M w h.chip
    rw [hd] at this
    exact this.mono fun _ _ h => ⟨h.1, h.2.symm⟩
  clear h hd
  go_enter Tryz.func95, Tryz.ntmps95
  go_wp2_with (go_at_call 39; refine HD.out.mono ?_; rintro e w1 ⟨rfl, rfl⟩)
  go_ret
  exact ⟨rfl, rfl⟩
set_option maxRecDepth 20000 in
set_option maxHeartbeats 1000000 in
theorem write_nil (w : World) (S : List Nat) (sb cb : Nat) (M : CM) (m : Man) (a : Nat) (x : SMem) (ao : Option Addr) (cap : Nat) (h : StoAt w S sb cb M m a x) (hd : downB M = false) :
    Calls Tryz.prog 57 #[.pointer (some ⟨sb, 0, none⟩), .slice ao 0 cap] w fun e w' => e = .returned (.iface 39 (.int .i64 2)) ∧ w' = w := by
  have CK : Hid (Calls Tryz.prog 95 #[.pointer (some ⟨sb, 0, none⟩), .slice ao 0 cap] w fun e w' => e = .returned (.iface 39 (.int .i64 2)) ∧ w' = w) := check_nil w S sb cb M m a x ao cap h hd
  clear h hd
  go_enter Tryz.func57, Tryz.ntmps57
  go_wp2_with (go_at_call 95; refine CK.out.mono ?_; rintro e w1 ⟨rfl, rfl⟩)
  go_ret
  exact ⟨rfl, rfl⟩
structure Aside3 (w : World) (S : List Nat) (ao : Option Addr) (l : List Ent) : Prop where
  ex : l = [] ∨ Aside2 w S ao l
theorem Aside3.ext {w w' : World} {S : List Nat} {ao : Option Addr} {l : List Ent} (h : Aside3 w S ao l) (hx : Ext w w') : Aside3 w' S ao l := ⟨h.ex.imp id (·.ext hx)⟩
theorem Up.wr {n : Nat} {w : World} {S : List Nat} {sb cb : Nat} {m : Man} {k : Nat} {R : List Ent} (h : Up n w S sb cb m k R) (hn : n ≤ 80000) {ao : Option Addr} {cap : Nat} {l : List Ent} (hl : Aside3 w S ao l) : Calls Tryz.prog 57 #[.pointer (some ⟨sb, 0, none⟩), .slice ao l.length cap] w fun e w' => e = .returned (errV (writeF R l)) ∧ UpE (n + 9) w w' S sb cb k (wrR R l) := by
  rcases hl.ex with rfl | hl
  · obtain ⟨M, a, x, N, O, h1, h2, _⟩ := h.ex
    have hw : writeF R [] = 2 := by unfold writeF; rw [if_pos (by simp)]
    refine (write_nil w S sb cb M m a x ao cap h1 (by unfold downB; rw [h2.nst.up]; rfl)).mono fun e w' hh => ?_
    unfold wrR
    rw [hw, if_neg (by omega), hh.2]
    exact ⟨hh.1, (h.same (Ext.refl _)).le (by omega) (by omega)⟩
  by_cases hw : writeF R l = 0
  · refine (h.write hn hl hw).mono fun e w' hh => ?_
    unfold errV wrR
    rw [if_pos hw, if_pos hw]; exact hh
  · refine (h.refuse hl hw).mono fun e w' hh => ?_
    unfold errV wrR
    rw [if_neg hw, if_neg hw]; exact ⟨hh.1, (h.same hh.2).le (by omega) (by omega)⟩
end Go.Proofs.YtkibgflbidkalaaGreatDoor

/- The laws' filled stores. -/
namespace Go.Proofs.YtkibgflbidkalaaGreatDoor
open Go.RowKit Go.WideShapes

end Go.Proofs.YtkibgflbidkalaaGreatDoor

/- TopRefuse. -/
namespace Go.Proofs.YtkibgflbidkalaaGreatDoor
open Go.RowKit Go.WideShapes

theorem RetE.len {w w' : World} {v : Value} {es : List Ent} (h : RetE w w' v es) : ∃ ao c, v = .slice ao es.length c ∧ EntsAt w' ao es ∧ Ext w w' := by
  obtain ⟨ao, c, h1, _, h3, _, h5⟩ := h.ex
  exact ⟨ao, c, h1, h3, h5⟩
theorem Up.few {n : Nat} {w : World} {S : List Nat} {sb cb : Nat} {m : Man} {k : Nat} {R : List Ent} (h : Up n w S sb cb m k R) : R.length ≤ 40 := by
  obtain ⟨M, a, x, N, O, h1, h2, h3, _⟩ := h.ex
  rw [← h3]; exact h2.rows
end Go.Proofs.YtkibgflbidkalaaGreatDoor
