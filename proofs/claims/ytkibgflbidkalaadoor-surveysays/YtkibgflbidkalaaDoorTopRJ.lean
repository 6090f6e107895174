/- FmtA StdA UpA WrkA DoA DoB TopR. -/
import Derived.Test.YtkibgflbidkalaaDoorStoOJ
import Derived.Test.YtkibgflbidkalaaDoorActAJ

/- A new chip is formatted. -/
namespace Go.Proofs.YtkibgflbidkalaaDoor
open Go.RowKit Go.WideShapes

/-- The chip, step by step. -/
def fM1 : CM := wipeM newM 2 []
def fM2 : CM := wipeM fM1 0 []
def fm : Man := ⟨1, 2, [], []⟩
def fM3 : CM := noteM fM2 0 (manTxt fm)
def fM : CM := wipeM fM3 1 []
theorem fm_ok : manFault fm = 0 := by decide +kernel
theorem f1_e : eraseE newM 2 = 0 ∧ eraseM newM 2 = fM1 := by
  have := erase_nst (M := newM) (b := 2) rfl (by omega) rfl rfl
  rw [if_neg (by decide), if_neg (by decide)] at this
  exact this
theorem f2_e : eraseE fM1 0 = 0 ∧ eraseM fM1 0 = fM2 := by
  have := erase_nst (M := fM1) (b := 0) rfl (by omega) rfl rfl
  rw [if_neg (by decide), if_neg (by decide)] at this
  exact this
theorem f2_nst : Nst fM2 0 none := new_nst.keep2 rfl (fun b hb => by simp [fM2, fM1, wipeM, upd, newM]) (fun b _ => rfl) (fun b _ => rfl)
theorem f3_ok : noteE fM2 0 (manTxt fm) = 0 ∧ Nst fM3 0 (some fm) ∧ fM3.left = -1 := by
  rcases (note_nst f2_nst fm_ok (fun _ h => by cases h)).end_ with ⟨h1, h2, h3⟩ | ⟨_, h2, _⟩
  · exact ⟨h1, h2, h3 (by decide)⟩
  · exact absurd (show fM2.left < 0 by decide) h2
theorem f3_far : NoteFar fM2 0 (manTxt fm) := note_far f2_nst (Nat.le_trans (manTxt_le fm_ok).1 (by omega))
theorem f3_wk : fM3.wk = fun _ => false := f3_far.wk
theorem f3_bd : fM3.bd = fun _ => false := f3_far.bd
theorem f4_e : eraseE fM3 1 = 0 ∧ eraseM fM3 1 = fM := by
  have hl := f3_ok.2.2
  have := erase_nst (M := fM3) (b := 1) f3_ok.2.1.up (by omega) (by rw [f3_bd]) (by rw [f3_wk])
  rw [if_neg (by omega), if_neg (by omega)] at this
  have ht : tickM fM3 = fM3 := by unfold tickM; rw [if_neg (by omega)]
  rw [ht] at this
  exact this
theorem f_inv : Inv 4 fM fm 0 [] [] [] := by
  obtain ⟨_, hN, hl⟩ := f3_ok
  obtain ⟨p, hp1, hp2⟩ := hN.new
  have h0 : fM.pg 0 = fM3.pg 0 := by simp [fM, wipeM, upd]
  have h1 : fM.pg 1 = [] := by simp [fM, wipeM, upd]
  refine ⟨⟨by omega, hN.up, fun b hb => hN.sound b hb, fun b hb => ?_, p, by rw [pageM_same h0]; exact hp1, fun b q m' hb hne hq => ?_⟩, fm_ok, by decide, fun b => ?_, rfl, rfl, by simp, by simp, ⟨2, rfl, LogAt.blank ?_⟩, Ris.nil, by simp [tabsE], by simp, by simp, by decide, by decide, fun b hb => ?_, ?_⟩
  · rcases (show b = 0 ∨ b = 1 by omega) with rfl | rfl
    · rw [h0]; exact hN.len 0 (by omega)
    · rw [h1]; simp
  · rcases (show b = 0 ∨ b = 1 by omega) with rfl | rfl
    · rw [pageM_same h0] at hq; exact hp2 0 q m' hb hne hq
    · rw [pageM_pg, h1] at hq; have := pgM_lt hq; simp at this
  · have := (note_nst f2_nst fm_ok (fun _ h => by cases h)).wr
    have h2 : ∀ b, fM2.wr b ≤ 2 := fun b => Nat.le_trans (upd_wr fM1.wr 0 b) (Nat.succ_le_succ (upd_wr newM.wr 2 b))
    have h3 : ∀ b, fM3.wr b ≤ 3 := fun b => by have := this b; have := h2 b; show (noteM fM2 0 (manTxt fm)).wr b ≤ 3; omega
    have := upd_wr fM3.wr 1 b
    have := h3 b
    show upd fM3.wr 1 (fM3.wr 1 + 1) b ≤ 4
    omega
  · show upd fM3.pg 1 [] 2 = []
    rw [upd_other _ _ _ (by omega)]
    exact (f3_far.pg 2 (by omega)).trans rfl
  · have : fM3.bd b = true := hb
    rw [f3_bd] at this; cases this
  · show wkN fM3.wk ≤ 6
    rw [f3_wk]; decide
theorem f_claim : claimS rdErase newM [0] = ⟨fM1, [0, 2], 2, 0⟩ := by
  have hf : freeS newM [0] = some 2 := by decide +kernel
  unfold claimS claimF
  rw [hf]
  show (if (rdErase newM 2).2 = 0 then (⟨(rdErase newM 2).1, [0] ++ [((2 : Nat) : Int)], 2, 0⟩ : CR) else _) = _
  rw [if_pos (show (rdErase newM 2).2 = 0 from f1_e.1)]
  show (⟨eraseM newM 2, [0, 2], 2, 0⟩ : CR) = _
  rw [f1_e.2]
set_option maxRecDepth 20000 in
set_option maxHeartbeats 1000000 in
theorem noteFirst_by (cb : Nat) (A B C D : CM) (w : World) (h : ChipAt w cb A)
    (H1 : Hid (∀ W, ChipAt W cb A → Calls Tryd.prog 39 #[.pointer (some ⟨cb, 0, none⟩), .int .i64 0] W fun e w' => e = .returned .nilIface ∧ ChipAt w' cb B ∧ W.grownBy w' (some cb)))
    (H2 : Hid (∀ W, ChipAt W cb B → Calls Tryd.prog 63 #[.pointer (some ⟨cb, 0, none⟩), .int .i64 0, .agg #[.int .i64 1, .int .i64 2, .slice none 0 0, .slice none 0 0]] W fun e w' => e = .returned (.tuple #[.int .i64 0, .nilIface]) ∧ ChipAt w' cb C ∧ W.grownBy w' (some cb)))
    (H3 : Hid (∀ W, ChipAt W cb C → Calls Tryd.prog 39 #[.pointer (some ⟨cb, 0, none⟩), .int .i64 1] W fun e w' => e = .returned .nilIface ∧ ChipAt w' cb D ∧ W.grownBy w' (some cb))) :
    Calls Tryd.prog 41 #[.pointer (some ⟨cb, 0, none⟩), .int .i64 1, .agg #[.int .i64 1, .int .i64 2, .slice none 0 0, .slice none 0 0]] w fun e w' => e = .returned (.tuple #[.int .i64 0, .nilIface]) ∧ ChipAt w' cb D ∧ Kp w w' [cb] := by
  have hcl := h.lt
  have HB : Hid (Blk (w.alloc (Obj.cells #[.int .i64 1, .int .i64 2, .slice none 0 0, .slice none 0 0] 42)) w.heap.size #[.int .i64 1, .int .i64 2, .slice none 0 0, .slice none 0 0] 42) := Blk.new _ _ _
  have HC : Hid (ChipAt (w.alloc (Obj.cells #[.int .i64 1, .int .i64 2, .slice none 0 0, .slice none 0 0] 42)) cb A) := h.ext ((Ext.refl _).alloc _)
  have HNE : Hid (¬ w.heap.size = cb) := by unfold Hid; omega
  clear h
  go_enter Tryd.func41, Tryd.ntmps41
  go_wp2_with (first
    | (go_at_call 63; refine (H2.out _ hc1).mono ?_; rintro e w2 ⟨rfl, hc2, hg2⟩)
    | (go_at_call 39; refine (H3.out _ hc2).mono ?_; rintro e w3 ⟨rfl, hc3, hg3⟩)
    | (go_at_call 39; refine (H1.out _ HC.out).mono ?_; rintro e w1 ⟨rfl, hc1, hg1⟩; have hb1 := HB.out.grown hg1 HNE.out; have k0 : _ = some (Value.int .i64 1) := hb1.cell 0; have k1 : _ = some (Value.int .i64 2) := hb1.cell 1; have k2 : _ = some (Value.slice none 0 0) := hb1.cell 2; have k3 : _ = some (Value.slice none 0 0) := hb1.cell 3; have hl1 := hb1.lt))
  go_ret2
  refine ⟨rfl, hc3, ?_⟩
  exact (((Kp.ofExt ((Ext.refl w).alloc _) [cb]).trans (Kp.grown hg1)).trans (Kp.grown hg2)).trans (Kp.grown hg3)
theorem f1_wr (b : Nat) : fM1.wr b ≤ 1 := upd_wr newM.wr 2 b
theorem f2_wr (b : Nat) : fM2.wr b ≤ 2 := Nat.le_trans (upd_wr fM1.wr 0 b) (Nat.succ_le_succ (f1_wr b))
theorem f3_wr (b : Nat) : fM3.wr b ≤ 3 := Nat.le_trans ((note_nst f2_nst fm_ok (fun _ h => by cases h)).wr b) (Nat.succ_le_succ (f2_wr b))
theorem wr_ok {M : CM} {n : Nat} (h : ∀ b, M.wr b ≤ n) (hn : n ≤ 1000000000) : WrOk M := fun b _ => Nat.le_trans (h b) hn
theorem f_erase {A B : CM} {b : Int} (hl : A.left ≤ 9223372036854775807) (hw : WrOk A) (h : eraseE A b = 0 ∧ eraseM A b = B) (cb : Nat) (W : World) (hc : ChipAt W cb A) : Calls Tryd.prog 39 #[.pointer (some ⟨cb, 0, none⟩), .int .i64 b] W fun e w' => e = .returned .nilIface ∧ ChipAt w' cb B ∧ W.grownBy w' (some cb) := by
  have := erase_any cb b A W hc hl hw
  rw [h.1, h.2] at this
  exact this
theorem f_note {A C : CM} {m : Man} (hl : A.left ≤ 9223372036854775807) (hw : WrOk A) (hf : manFault m = 0) (h : noteE A 0 (manTxt m) = 0) (ha : noteAt A 0 = 0) (hC : noteM A 0 (manTxt m) = C) (hn : m.nw = []) (ho : m.od = []) (cb : Nat) (W : World) (hc : ChipAt W cb A) : Calls Tryd.prog 63 #[.pointer (some ⟨cb, 0, none⟩), .int .i64 0, .agg #[.int .i64 m.ep, .int .i64 m.lg, .slice none m.nw.length 0, .slice none m.od.length 0]] W fun e w' => e = .returned (.tuple #[.int .i64 0, .nilIface]) ∧ ChipAt w' cb C ∧ W.grownBy w' (some cb) := by
  refine (note_any cb 0 A m none none 0 0 W hc (by omega) hl hw (fun h => absurd hn h) (fun h => absurd ho h) hf).mono ?_
  rintro e w' ⟨(⟨_, rfl⟩ | ⟨hn, _⟩), hc', hg⟩
  · rw [ha]; exact ⟨rfl, hC ▸ hc', hg⟩
  · exact absurd h hn
theorem f1_left : fM1.left ≤ 9223372036854775807 := by decide
theorem f2_left : fM2.left ≤ 9223372036854775807 := by decide
theorem f3_left : fM3.left ≤ 9223372036854775807 := by rw [f3_ok.2.2]; decide
theorem f2_at : noteAt fM2 0 = 0 := by decide
theorem noteFirst_new (cb : Nat) (w : World) (h : ChipAt w cb fM1) :
    Calls Tryd.prog 41 #[.pointer (some ⟨cb, 0, none⟩), .int .i64 1, .agg #[.int .i64 1, .int .i64 2, .slice none 0 0, .slice none 0 0]] w fun e w' => e = .returned (.tuple #[.int .i64 0, .nilIface]) ∧ ChipAt w' cb fM ∧ Kp w w' [cb] :=
  noteFirst_by cb fM1 fM2 fM3 fM w h
    (fun W hc => f_erase f1_left (wr_ok f1_wr (by omega)) f2_e cb W hc)
    (fun W hc => f_note (m := fm) f2_left (wr_ok f2_wr (by omega)) fm_ok f3_ok.1 f2_at rfl rfl rfl cb W hc)
    (fun W hc => f_erase f3_left (wr_ok f3_wr (by omega)) f4_e cb W hc)
theorem f_find (cb : Nat) (w : World) (h : ChipAt w cb newM) : Calls Tryd.prog 37 #[.pointer (some ⟨cb, 0, none⟩)] w fun e w' => e = .returned (.tuple #[.agg #[.int .i64 0, .int .i64 0, .slice none 0 0, .slice none 0 0], .int .i64 0, .iface 62 (.int .i64 4)]) ∧ Ext w w' := by
  refine (find_up cb newM w h rfl).mono ?_
  rw [find_none new_nst]
  rintro e w' ⟨hx, (⟨m', a', a1, c1, a2, c2, hh, _⟩ | ⟨_, rfl⟩)⟩
  · cases hh
  · exact ⟨rfl, hx⟩
theorem f_used (w : World) : Calls Tryd.prog 31 #[.agg #[.int .i64 0, .int .i64 0, .slice none 0 0, .slice none 0 0]] w fun e w' => e = .returned (.pointer (some ⟨w.heap.size + 1, 0, none⟩)) ∧ Blk w' (w.heap.size + 1) (usedC [0]) 115 ∧ Ext w w' :=
  inUse_any ⟨0, 0, [], []⟩ none none 0 0 w (by simp) (by simp [names]) (fun h => absurd rfl h) (fun h => absurd rfl h)
theorem f_claim_any (cb ub : Nat) (w : World) (h : ChipAt w cb newM) (hu : Blk w ub (usedC [0]) 115) (hne : ¬ ub = cb) : Calls Tryd.prog 38 #[.pointer (some ⟨cb, 0, none⟩), .pointer (some ⟨ub, 0, none⟩), .func (.func 39) #[.pointer (some ⟨cb, 0, none⟩)] #[]] w fun e w' => e = .returned (.tuple #[.int .i64 2, .nilIface]) ∧ ChipAt w' cb fM1 ∧ Kp w w' [cb, ub] := by
  refine (claimE_any cb ub newM [0] w h hu hne (by decide) rfl (fun b => Nat.zero_le _)).mono ?_
  intro e w' hC
  have hD := hC.det
  rw [f_claim] at hD
  exact ⟨hD.ret, hD.chip, hD.kept⟩
set_option maxRecDepth 20000 in
set_option maxHeartbeats 1000000 in
theorem format_by (cb : Nat) (A B C : CM) (w : World) (h : ChipAt w cb A)
    (H1 : Hid (Calls Tryd.prog 37 #[.pointer (some ⟨cb, 0, none⟩)] w fun e w' => e = .returned (.tuple #[.agg #[.int .i64 0, .int .i64 0, .slice none 0 0, .slice none 0 0], .int .i64 0, .iface 62 (.int .i64 4)]) ∧ Ext w w'))
    (H2 : Hid (∀ W ub, ChipAt W cb A → Blk W ub (usedC [0]) 115 → ¬ ub = cb → Calls Tryd.prog 38 #[.pointer (some ⟨cb, 0, none⟩), .pointer (some ⟨ub, 0, none⟩), .func (.func 39) #[.pointer (some ⟨cb, 0, none⟩)] #[]] W fun e w' => e = .returned (.tuple #[.int .i64 2, .nilIface]) ∧ ChipAt w' cb B ∧ Kp W w' [cb, ub]))
    (H3 : Hid (∀ W, ChipAt W cb B → Calls Tryd.prog 41 #[.pointer (some ⟨cb, 0, none⟩), .int .i64 1, .agg #[.int .i64 1, .int .i64 2, .slice none 0 0, .slice none 0 0]] W fun e w' => e = .returned (.tuple #[.int .i64 0, .nilIface]) ∧ ChipAt w' cb C ∧ Kp W w' [cb])) :
    Calls Tryd.prog 18 #[.pointer (some ⟨cb, 0, none⟩)] w fun e w' => e = .returned .nilIface ∧ ChipAt w' cb C ∧ Kp w w' [cb] := by
  have hcl := h.lt
  have e1 := eqErr
  have e2 := eqNil
  have HC : Hid (ChipAt w cb A) := h
  have HU : Hid (∀ W, Calls Tryd.prog 31 #[.agg #[.int .i64 0, .int .i64 0, .slice none 0 0, .slice none 0 0]] W fun e w' => e = .returned (.pointer (some ⟨W.heap.size + 1, 0, none⟩)) ∧ Blk w' (W.heap.size + 1) (usedC [0]) 115 ∧ Ext W w') := f_used
  clear h
  go_enter Tryd.func18, Tryd.ntmps18
  go_wp2_with (first
    | (go_at_call 37; refine H1.out.mono ?_; rintro e w1 ⟨rfl, hx1⟩)
    | (go_at_call 31; refine (HU.out _).mono ?_; rintro e w2 ⟨rfl, hb2, hx2⟩; have hz1 := hx1.size; have hX2 : Ext w w2 := (hx1.alloc _).trans hx2; simp only [World.size_alloc] at hb2)
    | (go_at_call 38; refine (H2.out _ _ (HC.out.ext hX2) hb2 (by omega)).mono ?_; rintro e w3 ⟨rfl, hc3, hk3⟩)
    | (go_at_call 41; refine (H3.out _ hc3).mono ?_; rintro e w4 ⟨rfl, hc4, hk4⟩))
  go_ret
  refine ⟨rfl, hc4, ((Kp.ofExt hX2 [cb]).new hk3 (fun x hx => ?_)).trans hk4⟩
  simp at hx
  rcases hx with rfl | rfl
  · simp
  · right; omega
theorem format_new (cb : Nat) (w : World) (h : ChipAt w cb newM) : Calls Tryd.prog 18 #[.pointer (some ⟨cb, 0, none⟩)] w fun e w' => e = .returned .nilIface ∧ ChipAt w' cb fM ∧ Kp w w' [cb] :=
  format_by cb newM fM1 fM w h (f_find cb w h) (fun W ub hc hu hne => f_claim_any cb ub W hc hu hne) (fun W hc => noteFirst_new cb W hc)
end Go.Proofs.YtkibgflbidkalaaDoor

/- The laws' stores: Stored, rows, Manifest. -/
namespace Go.Proofs.YtkibgflbidkalaaDoor
open Go.RowKit Go.WideShapes

/-- A store on a new chip. -/
structure StdE (w w' : World) (e : Ending) : Prop where
  ex : ∃ cb sb S x, e = .returned (.tuple #[.pointer (some ⟨cb, 0, none⟩), .pointer (some ⟨sb, 0, none⟩), .bool true]) ∧ StoAt w' S sb cb fM fm 0 x ∧ x.ns.map Nd.e = [] ∧ Ext w w' ∧ ∀ b ∈ S, w.heap.size ≤ b
set_option maxRecDepth 20000 in
set_option maxHeartbeats 1000000 in
theorem stored_any (w : World) (hg : GlobT w) : Calls Tryd.prog 4 #[] w fun e w' => StdE w w' e := by
  have H1 := new_any w
  have hgl := hg.lt
  have H2 : Hid (∀ W, ChipAt W w.heap.size newM → Calls Tryd.prog 18 #[.pointer (some ⟨w.heap.size, 0, none⟩)] W fun e w' => e = .returned .nilIface ∧ ChipAt w' w.heap.size fM ∧ Kp W w' [w.heap.size]) := fun W hc => format_new _ W hc
  have H3 : Hid (∀ W, Ext w W → ChipAt W w.heap.size fM → Calls Tryd.prog 19 #[.pointer (some ⟨w.heap.size, 0, none⟩)] W fun e w' => ∃ sb S x, e = .returned (.tuple #[.pointer (some ⟨sb, 0, none⟩), .nilIface]) ∧ StoAt w' S sb w.heap.size fM fm 0 x ∧ x.ns.map Nd.e = [] ∧ Ext W w' ∧ ∀ b ∈ S, b = w.heap.size ∨ W.heap.size ≤ b) := fun W hx hc =>
    (open_any 4 W w.heap.size fM fm 0 [] [] [] hc (hg.ext hx) (by omega) hc.lt f_inv).mono fun _ _ h => h.ex
  generalize newM = A at *
  generalize hB : fM = B at *
  generalize hcb : w.heap.size = cb at *
  go_enter Tryd.func4, Tryd.ntmps4
  go_wp2_with (first
    | (go_at_call 17; refine H1.mono ?_; rintro e w1 ⟨rfl, hc1, hx1, hz1⟩)
    | (go_at_call 18; refine (H2.out _ hc1).mono ?_; rintro e w2 ⟨rfl, hc2, hk2⟩; have hx2 : Ext w w2 := Kp.ext hx1 hk2 (by simp; omega))
    | (go_at_call 19; refine (H3.out _ hx2 hc2).mono ?_; rintro e w3 ⟨sb, S, x, rfl, hs3, hn3, hx3, hS3⟩))
  refine bodyPost_ret (v := .tuple #[.pointer (some ⟨cb, 0, none⟩), .pointer (some ⟨sb, 0, none⟩), .bool true]) (by simp [results, go_sem]) rfl ?_
  subst hB
  have hz2 := hx2.size
  exact ⟨cb, sb, S, x, rfl, hs3, hn3, hx2.trans hx3, fun b hb => by rcases hS3 b hb with h' | h' <;> omega⟩
end Go.Proofs.YtkibgflbidkalaaDoor

/- A store in use, with no fall ahead: what the laws walk with. -/
namespace Go.Proofs.YtkibgflbidkalaaDoor
open Go.RowKit Go.WideShapes

/-- A store in use: its rows, its weak blocks. -/
structure Up (n : Nat) (w : World) (S : List Nat) (sb cb : Nat) (m : Man) (k : Nat) (R : List Ent) : Prop where
  ex : ∃ M a x N O, StoAt w S sb cb M m a x ∧ Inv n M m a (x.ns.map Nd.e) N O ∧ rowsE (x.ns.map Nd.e) N O = R ∧ M.left = -1 ∧ wkN M.wk ≤ k ∧ N.length ≤ 2
theorem Up.ext {n : Nat} {w w' : World} {S : List Nat} {sb cb : Nat} {m : Man} {k : Nat} {R : List Ent} (h : Up n w S sb cb m k R) (hx : Ext w w') : Up n w' S sb cb m k R := by
  obtain ⟨M, a, x, N, O, h1, h2⟩ := h.ex
  exact ⟨M, a, x, N, O, h1.ext hx, h2⟩
theorem Up.kp {n : Nat} {w w' : World} {S T : List Nat} {sb cb : Nat} {m : Man} {k : Nat} {R : List Ent} (h : Up n w S sb cb m k R) (hK : Kp w w' T) (hd : ∀ b ∈ S, b ∉ T) (hg : 1 ∉ T) : Up n w' S sb cb m k R := by
  obtain ⟨M, a, x, N, O, h1, h2, h3⟩ := h.ex
  exact ⟨M, a, x, N, O, h1.kp h2.nst.up hK hd hg, h2, h3⟩
/-- Something has been done to it. -/
structure UpE (n : Nat) (w w' : World) (S : List Nat) (sb cb : Nat) (k : Nat) (R : List Ent) : Prop where
  ex : ∃ S' m, Up n w' S' sb cb m k R ∧ Kp w w' S ∧ ∀ b ∈ S', b ∈ S ∨ w.heap.size ≤ b
theorem OpEnd.up {n : Nat} {w w' : World} {S : List Nat} {sb cb : Nat} {M : CM} {R : List Ent} {P : List Ent → Prop} {Q : CM → Man → List Ent → List Tb → Prop} {e : Ending} {k : Nat} (h : OpEnd n w w' S sb cb M (· = R) P Q e) (hl : M.left = -1) (hk : wkN M.wk ≤ k) (h2 : ∀ M' m' hand' N', Q M' m' hand' N' → N'.length ≤ 2) : e = .returned .nilIface ∧ UpE n w w' S sb cb k R := by
  cases h with
  | ok M' m' a' x' S' N' O' he hs hi hr hl' hq hw hk' hS hQ => exact ⟨he, ⟨S', m', ⟨M', a', x', N', O', hs, hi, hr, by rw [hl' (by omega)]; exact hl, by rw [hw]; exact hk, h2 _ _ _ _ hQ⟩, hk', hS⟩⟩
  | fell M' he hl' => exact absurd (show M.left < 0 by omega) hl'
theorem Up.flush {n : Nat} {w : World} {S : List Nat} {sb cb : Nat} {m : Man} {k : Nat} {R : List Ent} (h : Up n w S sb cb m k R) (hn : n ≤ 80000) : Calls Tryd.prog 10 #[.pointer (some ⟨sb, 0, none⟩)] w fun e w' => e = .returned .nilIface ∧ UpE (n + 9) w w' S sb cb k R := by
  obtain ⟨M, a, x, N, O, h1, h2, h3, h4, h5⟩ := h.ex
  have := flush_any n w S sb cb M m a x N O h1 h2 (by omega) hn
  rw [h3] at this
  exact this.mono fun _ _ hO => hO.up h4 h5.1 (fun _ _ _ _ hq => hq.1)
theorem Up.compact {n : Nat} {w : World} {S : List Nat} {sb cb : Nat} {m : Man} {k : Nat} {R : List Ent} (h : Up n w S sb cb m k R) (hn : n ≤ 80000) : Calls Tryd.prog 11 #[.pointer (some ⟨sb, 0, none⟩)] w fun e w' => e = .returned .nilIface ∧ UpE (n + 3) w w' S sb cb k R := by
  obtain ⟨M, a, x, N, O, h1, h2, h3, h4, h5⟩ := h.ex
  have := compact_any n w S sb cb M m a x N O h1 h2 (by omega) (by omega)
  rw [h3] at this
  exact this.mono fun _ _ hO => hO.up h4 h5.1 (fun _ _ _ _ hq => by rw [hq.1]; simp)
theorem Up.write {n : Nat} {w : World} {S : List Nat} {sb cb : Nat} {m : Man} {k : Nat} {R : List Ent} (h : Up n w S sb cb m k R) (hn : n ≤ 80000) {ao : Option Addr} {cap : Nat} {l : List Ent} (hl : Aside2 w S ao l) (hw : writeF R l = 0) : Calls Tryd.prog 9 #[.pointer (some ⟨sb, 0, none⟩), .slice ao l.length cap] w fun e w' => e = .returned .nilIface ∧ UpE (n + 9) w w' S sb cb k (afterE R l) := by
  obtain ⟨M, a, x, N, O, h1, h2, h3, h4, h5⟩ := h.ex
  have := swrite_any n w S sb cb M m a x N O ao cap l h1 h2 (by omega) hn hl (by rw [h3]; exact hw)
  rw [h3] at this
  exact this.mono fun _ _ hO => hO.up h4 h5.1 (fun _ _ _ _ hq => hq h5.2)
theorem Up.refuse {n : Nat} {w : World} {S : List Nat} {sb cb : Nat} {m : Man} {k : Nat} {R : List Ent} (h : Up n w S sb cb m k R) {ao : Option Addr} {cap : Nat} {l : List Ent} (hl : Aside2 w S ao l) (hw : ¬ writeF R l = 0) : Calls Tryd.prog 9 #[.pointer (some ⟨sb, 0, none⟩), .slice ao l.length cap] w fun e w' => e = .returned (.iface 62 (.int .i64 (writeF R l))) ∧ Ext w w' := by
  obtain ⟨M, a, x, N, O, h1, h2, h3, h4, h5⟩ := h.ex
  have := swrite_bad n w S sb cb M m a x N O ao cap l h1 h2 hl.at_ hl.lt (by rw [h3]; exact hw)
  rw [h3] at this
  exact this
theorem Up.check {n : Nat} {w : World} {S : List Nat} {sb cb : Nat} {m : Man} {k : Nat} {R : List Ent} (h : Up n w S sb cb m k R) {ao : Option Addr} {cap : Nat} {l : List Ent} (hl : Aside2 w S ao l) : Calls Tryd.prog 22 #[.pointer (some ⟨sb, 0, none⟩), .slice ao l.length cap] w fun e w' => e = .returned (errV (writeF R l)) ∧ Ext w w' := by
  obtain ⟨M, a, x, N, O, h1, h2, h3, h4, h5⟩ := h.ex
  have := scheck_any n w S sb cb M m a x N O ao cap l h1 h2 hl.at_ hl.lt
  rw [h3] at this
  exact this
/-- It is opened anew. -/
theorem Up.open {n : Nat} {w : World} {S : List Nat} {sb cb : Nat} {m : Man} {k : Nat} {R : List Ent} (h : Up n w S sb cb m k R) : Calls Tryd.prog 19 #[.pointer (some ⟨cb, 0, none⟩)] w fun e w' => ∃ tb T, e = .returned (.tuple #[.pointer (some ⟨tb, 0, none⟩), .nilIface]) ∧ Up n w' T tb cb m k R ∧ Ext w w' ∧ ∀ b ∈ T, b = cb ∨ w.heap.size ≤ b := by
  obtain ⟨M, a, x, N, O, h1, h2, h3, h4, h5⟩ := h.ex
  refine (open_any n w cb M m a (x.ns.map Nd.e) N O h1.chip h1.glob (fun e => h1.gS (e ▸ h1.cS.1)) (h1.lt _ h1.cS.1) h2).mono ?_
  rintro e w' ⟨tb, T, y, rfl, q1, q2, q3, q4⟩
  exact ⟨tb, T, rfl, ⟨M, a, y, N, O, q1, by rw [q2]; exact h2, by rw [q2]; exact h3, h4, h5⟩, q3, q4⟩
theorem getR_live (o : Option Ent) : getR (liveO o) = getR o := by
  unfold getR
  cases o with
  | none => rfl
  | some e =>
    cases hg : e.gone <;> simp [liveO, hg]
/-- A new store. -/
theorem StdE.up {w w' : World} {e : Ending} (h : StdE w w' e) : ∃ cb sb S, e = .returned (.tuple #[.pointer (some ⟨cb, 0, none⟩), .pointer (some ⟨sb, 0, none⟩), .bool true]) ∧ Up 4 w' S sb cb fm 0 [] ∧ Ext w w' ∧ ∀ b ∈ S, w.heap.size ≤ b := by
  obtain ⟨cb, sb, S, x, h1, h2, h3, h4, h5⟩ := h.ex
  refine ⟨cb, sb, S, h1, ⟨fM, 0, x, [], [], h2, by rw [h3]; exact f_inv, by rw [h3]; rfl, f3_ok.2.2, ?_, by simp⟩, h4, h5⟩
  show wkN fM3.wk ≤ 0
  rw [f3_wk]; decide
end Go.Proofs.YtkibgflbidkalaaDoor

/- The laws' closed fact. -/
namespace Go.Proofs.YtkibgflbidkalaaDoor
open Go.RowKit Go.WideShapes

/-- The one entry that is written. -/
def oneE : Ent := ⟨⟨#[107]⟩, ⟨#[120]⟩, false⟩
theorem one_f : writeF [] [oneE] = 0 := by decide +kernel
theorem one_get : getR (getE (afterE [] [oneE]) ⟨#[107]⟩) = .tuple #[.string ⟨#[120]⟩, .bool true, .nilIface] := by
  have : getE (afterE [] [oneE]) ⟨#[107]⟩ = some oneE := by kernel_rfl
  rw [this]; rfl
theorem one_at (W : World) : EntsAt (W.alloc (Obj.cells #[.string ⟨#[107]⟩, .string ⟨#[120]⟩, .bool false] 96)) (some ⟨W.heap.size, 0, none⟩) [oneE] := fun _ => by
  refine ⟨W.heap.size, 0, rfl, fun i e he => ?_⟩
  have hb : Blk (W.alloc (Obj.cells #[.string ⟨#[107]⟩, .string ⟨#[120]⟩, .bool false] 96)) W.heap.size #[.string ⟨#[107]⟩, .string ⟨#[120]⟩, .bool false] 96 := Blk.new _ _ _
  cases i with
  | zero => cases he; exact ⟨hb.cell 0, hb.cell 1, hb.cell 2⟩
  | succ i => simp at he
theorem UpE.far {n : Nat} {w0 w w' : World} {S : List Nat} {sb cb k : Nat} {R : List Ent} (h : UpE n w w' S sb cb k R) (hS : ∀ b ∈ S, w0.heap.size ≤ b) (hx : Ext w0 w) : ∃ S' m, Up n w' S' sb cb m k R ∧ Ext w0 w' ∧ ∀ b ∈ S', w0.heap.size ≤ b := by
  obtain ⟨S', m, h1, h2, h3⟩ := h.ex
  have := hx.size
  exact ⟨S', m, h1, Kp.ext hx h2 hS, fun b hb => by rcases h3 b hb with h' | h'; exact hS b h'; omega⟩
end Go.Proofs.YtkibgflbidkalaaDoor

/- The laws' acts on a store: do, Weak. -/
namespace Go.Proofs.YtkibgflbidkalaaDoor
open Go.RowKit Go.WideShapes

theorem wkN_upd (wk : Nat → Bool) (b : Nat) : wkN (upd wk b true) ≤ wkN wk + 1 := by
  unfold wkN
  have key : ∀ X : List Nat, X.Nodup → X.countP (upd wk b true) ≤ X.countP wk + 1 := by
    intro X
    induction X with
    | nil => simp
    | cons y X ih =>
      intro hn
      obtain ⟨h1, h2⟩ := List.nodup_cons.1 hn
      by_cases hy : y = b
      · subst hy
        have : X.countP (upd wk y true) = X.countP wk := List.countP_congr (fun z hz => by rw [upd_other _ _ _ (show ¬ z = y from fun e => h1 (e ▸ hz))])
        rw [List.countP_cons, List.countP_cons, this, upd_same]; simp
      · rw [List.countP_cons, List.countP_cons, upd_other _ _ _ hy]; have := ih h2; omega
  exact key _ range_nodup
theorem weaken_wk (M : CM) (b : Int) : wkN (weakenM M b).wk ≤ wkN M.wk + 1 := by
  unfold weakenM
  split
  · exact wkN_upd _ _
  · omega
theorem Inv.weaken {n : Nat} {M : CM} {m : Man} {a : Nat} {hand : List Ent} {N O : List Tb} (h : Inv n M m a hand N O) (b : Int) (hk : wkN (weakenM M b).wk ≤ 6) : Inv n (weakenM M b) m a hand N O := by
  unfold weakenM at hk ⊢
  split
  · rename_i hb
    rw [if_pos hb] at hk
    obtain ⟨g, hg, hl⟩ := h.lg
    refine ⟨⟨h.nst.le, h.nst.up, fun c hc => ⟨?_, (h.nst.sound c hc).2⟩, h.nst.len, h.nst.new⟩, h.ok, h.ep, h.wr, h.nw, h.od, fun x hx => ⟨(h.tn x hx).ok, (h.tn x hx).lt, (h.tn x hx).pg⟩, fun x hx => ⟨(h.told x hx).ok, (h.told x hx).lt, (h.told x hx).pg⟩, ⟨g, hg, ⟨hl.ex⟩⟩, h.ris, h.live, h.few, h.few', h.rows, h.trows, fun c hc => ?_, hk⟩
    · show upd M.wk b.toNat true c = false
      rw [upd_other _ _ _ (by omega)]
      exact (h.nst.sound c hc).1
    · show upd M.wk b.toNat true c = true
      by_cases hcb : c = b.toNat
      · subst hcb; exact upd_same _ _ _
      · rw [upd_other _ _ _ hcb]; exact h.bw c hc
  · exact h
theorem Up.weaken {n : Nat} {w : World} {S : List Nat} {sb cb : Nat} {m : Man} {k : Nat} {R : List Ent} (h : Up n w S sb cb m k R) (hk : k + 1 ≤ 6) (b : Int) : Calls Tryd.prog 12 #[.pointer (some ⟨cb, 0, none⟩), .int .i64 b] w fun e w' => e = .returned (errV (weakenE b)) ∧ UpE n w w' S sb cb (k + 1) R := by
  obtain ⟨M, a, x, N, O, h1, h2, h3, h4, h5⟩ := h.ex
  refine (weaken_any cb b M w h1.chip).mono ?_
  rintro e w' ⟨rfl, hc, hg⟩
  have hw := weaken_wk M b
  have hK := Kp.grown hg
  refine ⟨rfl, ⟨S, m, ⟨weakenM M b, a, x, N, O, h1.chg hK hc, h2.weaken b (by omega), h3, ?_, by omega, h5.2⟩, hK.mono (by simpa using h1.cS.1), fun b hb => .inl hb⟩⟩
  unfold weakenM
  split
  · exact h4
  · exact h4
/-- Kinds of acts. -/
def isWr (e : ActE) : Bool := e.kind.toList == [119, 114, 105, 116, 101]
def isFl (e : ActE) : Bool := e.kind.toList == [102, 108, 117, 115, 104]
def isCo (e : ActE) : Bool := e.kind.toList == [99, 111, 109, 112, 97, 99, 116]
def isWk (e : ActE) : Bool := e.kind.toList == [119, 101, 97, 107, 101, 110]
/-- What a write leaves. -/
def wrR (R l : List Ent) : List Ent := if writeF R l = 0 then afterE R l else R
/-- What an act leaves. -/
def doR (R : List Ent) (e : ActE) : List Ent := if isWr e then wrR R e.es else R
/-- How many weaken. -/
def weakN (l : List ActE) : Nat := l.countP isWk
def wk1 (e : ActE) : Nat := if isWk e = true then 1 else 0
theorem Up.le {n n' : Nat} {w : World} {S : List Nat} {sb cb : Nat} {m : Man} {k k' : Nat} {R : List Ent} (h : Up n w S sb cb m k R) (hn : n ≤ n') (hk : k ≤ k') : Up n' w S sb cb m k' R := by
  obtain ⟨M, a, x, N, O, h1, h2, h3, h4, h5⟩ := h.ex
  exact ⟨M, a, x, N, O, h1, h2.keep (fun _ _ => rfl) (fun _ _ => rfl) h2.nst.up rfl h2.bw (fun b => Nat.le_trans (h2.wr b) hn) hn, h3, h4, by omega, h5.2⟩
theorem UpE.le {n n' : Nat} {w w' : World} {S : List Nat} {sb cb : Nat} {k k' : Nat} {R : List Ent} (h : UpE n w w' S sb cb k R) (hn : n ≤ n') (hk : k ≤ k') : UpE n' w w' S sb cb k' R := by
  obtain ⟨S', m, h1, h2⟩ := h.ex
  exact ⟨S', m, h1.le hn hk, h2⟩
theorem Up.same {n : Nat} {w w' : World} {S : List Nat} {sb cb : Nat} {m : Man} {k : Nat} {R : List Ent} (h : Up n w S sb cb m k R) (hx : Ext w w') : UpE n w w' S sb cb k R := ⟨S, m, h.ext hx, Kp.ofExt hx S, fun _ hb => .inl hb⟩
theorem UpE.from {n : Nat} {w w1 w' : World} {S : List Nat} {sb cb : Nat} {k : Nat} {R : List Ent} (h : UpE n w1 w' S sb cb k R) (hx : Ext w w1) : UpE n w w' S sb cb k R := by
  obtain ⟨S', m, h1, h2, h3⟩ := h.ex
  have := hx.size
  exact ⟨S', m, h1, (Kp.ofExt hx S).trans h2, fun b hb => by rcases h3 b hb with h' | h'; exact .inl h'; exact .inr (by omega)⟩
theorem Aside2.ext {w w' : World} {S : List Nat} {ao : Option Addr} {l : List Ent} (h : Aside2 w S ao l) (hx : Ext w w') : Aside2 w' S ao l := ⟨h.at_.ext2 hx, fun p e => Nat.lt_of_lt_of_le (h.lt p e) hx.size, h.no⟩
set_option maxRecDepth 20000 in
set_option maxHeartbeats 1000000 in
theorem check_nil (w : World) (S : List Nat) (sb cb : Nat) (M : CM) (m : Man) (a : Nat) (x : SMem) (ao : Option Addr) (cap : Nat) (h : StoAt w S sb cb M m a x) (hd : downB M = false) :
    Calls Tryd.prog 22 #[.pointer (some ⟨sb, 0, none⟩), .slice ao 0 cap] w fun e w' => e = .returned (.iface 62 (.int .i64 2)) ∧ w' = w := by
  have k0 := h.blk.cell 0
  simp [storeC] at k0
  have HD : Hid (Calls Tryd.prog 28 #[.pointer (some ⟨cb, 0, none⟩)] w fun e w' => e = .returned (.bool false) ∧ w = w') := by
    have := down_any cb M w h.chip
    rw [hd] at this
    exact this.mono fun _ _ h => ⟨h.1, h.2.symm⟩
  clear h hd
  go_enter Tryd.func22, Tryd.ntmps22
  go_wp2_with (go_at_call 28; refine HD.out.mono ?_; rintro e w1 ⟨rfl, rfl⟩)
  go_ret
  exact ⟨rfl, rfl⟩
set_option maxRecDepth 20000 in
set_option maxHeartbeats 1000000 in
theorem write_nil (w : World) (S : List Nat) (sb cb : Nat) (M : CM) (m : Man) (a : Nat) (x : SMem) (ao : Option Addr) (cap : Nat) (h : StoAt w S sb cb M m a x) (hd : downB M = false) :
    Calls Tryd.prog 9 #[.pointer (some ⟨sb, 0, none⟩), .slice ao 0 cap] w fun e w' => e = .returned (.iface 62 (.int .i64 2)) ∧ w' = w := by
  have CK : Hid (Calls Tryd.prog 22 #[.pointer (some ⟨sb, 0, none⟩), .slice ao 0 cap] w fun e w' => e = .returned (.iface 62 (.int .i64 2)) ∧ w' = w) := check_nil w S sb cb M m a x ao cap h hd
  clear h hd
  go_enter Tryd.func9, Tryd.ntmps9
  go_wp2_with (go_at_call 22; refine CK.out.mono ?_; rintro e w1 ⟨rfl, rfl⟩)
  go_ret
  exact ⟨rfl, rfl⟩
/-- A list that came in lies apart from a store; where it is empty, anywhere. -/
structure Aside3 (w : World) (S : List Nat) (ao : Option Addr) (l : List Ent) : Prop where
  ex : l = [] ∨ Aside2 w S ao l
theorem Aside3.ext {w w' : World} {S : List Nat} {ao : Option Addr} {l : List Ent} (h : Aside3 w S ao l) (hx : Ext w w') : Aside3 w' S ao l := ⟨h.ex.imp id (·.ext hx)⟩
/-- What lay there before the store did. -/
theorem Aside3.old {w0 w : World} {S : List Nat} {ao : Option Addr} {l : List Ent} (h : EntsAt w0 ao l) (hx : Ext w0 w) (hS : ∀ b ∈ S, w0.heap.size ≤ b) : Aside3 w S ao l := by
  by_cases hl : l = []
  · exact ⟨.inl hl⟩
  · obtain ⟨b, off, rfl, hc⟩ := h hl
    have hb : b < w0.heap.size := by
      obtain ⟨e, r, rfl⟩ := List.exists_cons_of_ne_nil hl
      have := (hc 0 e rfl).1
      rcases Nat.lt_or_ge b w0.heap.size with h' | h'
      · exact h'
      · simp [World.cell?, Array.getElem?_eq_none h'] at this
    have := hx.size
    exact ⟨.inr ⟨h.ext2 hx, fun p e => by cases e; show b < _; omega, fun p e hm => by cases e; have := hS _ hm; dsimp only at this; omega⟩⟩
/-- Write, whatever comes. -/
theorem Up.wr {n : Nat} {w : World} {S : List Nat} {sb cb : Nat} {m : Man} {k : Nat} {R : List Ent} (h : Up n w S sb cb m k R) (hn : n ≤ 80000) {ao : Option Addr} {cap : Nat} {l : List Ent} (hl : Aside3 w S ao l) : Calls Tryd.prog 9 #[.pointer (some ⟨sb, 0, none⟩), .slice ao l.length cap] w fun e w' => e = .returned (errV (writeF R l)) ∧ UpE (n + 9) w w' S sb cb k (wrR R l) := by
  rcases hl.ex with rfl | hl
  · obtain ⟨M, a, x, N, O, h1, h2, _⟩ := h.ex
    have hw : writeF R [] = 2 := by unfold writeF; rw [if_pos (by simp)]
    refine (write_nil w S sb cb M m a x ao cap h1 (by unfold downB; rw [h2.nst.up]; rfl)).mono fun e w' hh => ?_
    unfold wrR
    rw [hw, if_neg (by omega), hh.2]
    exact ⟨hh.1, (h.same (Ext.refl _)).le (by omega) (by omega)⟩
  by_cases hw : writeF R l = 0
  · refine (h.write hn hl hw).mono fun e w' hh => ?_
    unfold errV wrR
    rw [if_pos hw, if_pos hw]; exact hh
  · refine (h.refuse hl hw).mono fun e w' hh => ?_
    unfold errV wrR
    rw [if_neg hw, if_neg hw]; exact ⟨hh.1, (h.same hh.2).le (by omega) (by omega)⟩
/-- What an act answers. -/
def doV (R : List Ent) (e : ActE) : Value := if isWr e = true then errV (writeF R e.es) else .nilIface
end Go.Proofs.YtkibgflbidkalaaDoor

/- The laws' filled stores. -/
namespace Go.Proofs.YtkibgflbidkalaaDoor
open Go.RowKit Go.WideShapes

theorem weakN_le (l : List ActE) : weakN l ≤ l.length := List.countP_le_length
theorem weakN_take {acs : List ActE} {k : Nat} {e : ActE} (he : acs[k]? = some e) : weakN (acs.take (k + 1)) = weakN (acs.take k) + wk1 e := by
  unfold weakN wk1
  rw [List.take_add_one, he, List.countP_append]
  cases hh : isWk e <;> simp [hh]
theorem weakN_mono (acs : List ActE) (k : Nat) : weakN (acs.take k) ≤ weakN acs := by
  have : weakN acs = weakN (acs.take k) + weakN (acs.drop k) := by
    unfold weakN
    rw [← List.countP_append, List.take_append_drop]
  omega
set_option maxRecDepth 20000 in
set_option maxHeartbeats 1000000 in
theorem weak_any (ao : Option Addr) (cap : Nat) (acs : List ActE) (w : World) (hl : acs.length ≤ 100) (has : ActsAt w ao acs) :
    Calls Tryd.prog 8 #[.slice ao acs.length cap] w fun e w' => e = .returned (.int .i64 (weakN acs : Int)) ∧ w' = w := by
  go_enter Tryd.func8, Tryd.ntmps8
  go_wp2_with fail
  go_loop [3, 4] (fun n i => ∃ k : Nat, k ≤ acs.length ∧ i = .int .i64 k ∧ n = .int .i64 (weakN (acs.take k) : Int)) (fun _ i => acs.length - (intOf i).toNat)
  case atStart => exact ⟨0, Nat.zero_le _, rfl, rfl⟩
  case round =>
    obtain ⟨k, hk, rfl, rfl⟩ := hrel
    have hwk := weakN_le (acs.take k)
    have hwl : (acs.take k).length ≤ k := by simp; omega
    by_cases hlt : k < acs.length
    · obtain ⟨b, off, e, rfl, he, c0, c1, c2, c3, c4, c5⟩ := has.get hlt
      have HT : Hid (weakN (acs.take (k + 1)) = weakN (acs.take k) + wk1 e) := weakN_take he
      clear he has c1 c2 c3 c4 c5
      generalize weakN (acs.take k) = q at *
      by_cases hkk : (e.kind.toList == [119, 101, 97, 107, 101, 110]) = true
      · have HW : Hid (wk1 e = 1) := by unfold Hid wk1 isWk; rw [if_pos hkk]
        go_wp2_with fail
        go_round
        case rel => exact ⟨k + 1, by omega, by go_num, by rw [HT.out, HW.out]; go_num⟩
        case measure => simp [intOf]; omega
      · have hkk' : (e.kind.toList == [119, 101, 97, 107, 101, 110]) = false := by simpa using hkk
        have HW : Hid (wk1 e = 0) := by unfold Hid wk1 isWk; rw [if_neg hkk]
        clear hkk
        go_wp2_with fail
        go_round
        case rel => exact ⟨k + 1, by omega, by go_num, by rw [HT.out, HW.out]; go_num⟩
        case measure => simp [intOf]; omega
    · clear has
      have HE : Hid (weakN acs = weakN (acs.take k)) := by unfold Hid; rw [List.take_of_length_le (by omega)]
      go_wp2_with fail
      go_ret
      refine ⟨?_, rfl⟩
      rw [HE.out]; rfl
/-- The rows that acts leave. -/
def fillR (acs : List ActE) : List Ent := acs.foldl doR []
/-- May a store be filled by them? -/
def fillB (acs : List ActE) : Bool := lightActs acs 80 && decide (weakN acs ≤ 6)
/-- A store has been filled. -/
structure FillE (w w' : World) (acs : List ActE) (e : Ending) : Prop where
  ex : ∃ cb sb S m, e = .returned (.tuple #[.pointer (some ⟨cb, 0, none⟩), .pointer (some ⟨sb, 0, none⟩), .bool true]) ∧ Up 800 w' S sb cb m (weakN acs) (fillR acs) ∧ Ext w w' ∧ ∀ b ∈ S, w.heap.size ≤ b
theorem fill_take {acs : List ActE} {k : Nat} {e : ActE} (he : acs[k]? = some e) : fillR (acs.take (k + 1)) = doR (fillR (acs.take k)) e := by
  unfold fillR
  rw [List.take_add_one, he, List.foldl_append]; rfl
/-- A store that is being filled. -/
structure FillAt (w wr : World) (sb cb : Nat) (n k : Nat) (R : List Ent) : Prop where
  ex : ∃ S m, Up n wr S sb cb m k R ∧ Ext w wr ∧ ∀ b ∈ S, w.heap.size ≤ b
end Go.Proofs.YtkibgflbidkalaaDoor

/- TopRefuse. -/
namespace Go.Proofs.YtkibgflbidkalaaDoor
open Go.RowKit Go.WideShapes

theorem Up.chk {n : Nat} {w : World} {S : List Nat} {sb cb : Nat} {m : Man} {k : Nat} {R : List Ent} (h : Up n w S sb cb m k R) {ao : Option Addr} {cap : Nat} {l : List Ent} (hl : Aside3 w S ao l) : Calls Tryd.prog 22 #[.pointer (some ⟨sb, 0, none⟩), .slice ao l.length cap] w fun e w' => e = .returned (errV (writeF R l)) ∧ Ext w w' := by
  rcases hl.ex with rfl | hl
  · obtain ⟨M, a, x, N, O, h1, h2, _⟩ := h.ex
    have hw : writeF R [] = 2 := by unfold writeF; rw [if_pos (by simp)]
    refine (check_nil w S sb cb M m a x ao cap h1 (by unfold downB; rw [h2.nst.up]; rfl)).mono fun e w' hh => ?_
    rw [hw, hh.2]
    exact ⟨hh.1, Ext.refl _⟩
  · exact h.check hl
theorem Up.wrBad {n : Nat} {w : World} {S : List Nat} {sb cb : Nat} {m : Man} {k : Nat} {R : List Ent} (h : Up n w S sb cb m k R) {ao : Option Addr} {cap : Nat} {l : List Ent} (hl : Aside3 w S ao l) (hw : ¬ writeF R l = 0) : Calls Tryd.prog 9 #[.pointer (some ⟨sb, 0, none⟩), .slice ao l.length cap] w fun e w' => e = .returned (.iface 62 (.int .i64 (writeF R l))) ∧ Ext w w' := by
  rcases hl.ex with rfl | hl
  · obtain ⟨M, a, x, N, O, h1, h2, _⟩ := h.ex
    have hw : writeF R [] = 2 := by unfold writeF; rw [if_pos (by simp)]
    refine (write_nil w S sb cb M m a x ao cap h1 (by unfold downB; rw [h2.nst.up]; rfl)).mono fun e w' hh => ?_
    rw [hw, hh.2]
    exact ⟨hh.1, Ext.refl _⟩
  · exact h.refuse hl hw
theorem RetE.len {w w' : World} {v : Value} {es : List Ent} (h : RetE w w' v es) : ∃ ao c, v = .slice ao es.length c ∧ EntsAt w' ao es ∧ Ext w w' := by
  obtain ⟨ao, c, h1, _, h3, _, h5⟩ := h.ex
  exact ⟨ao, c, h1, h3, h5⟩
theorem Up.few {n : Nat} {w : World} {S : List Nat} {sb cb : Nat} {m : Man} {k : Nat} {R : List Ent} (h : Up n w S sb cb m k R) : R.length ≤ 40 := by
  obtain ⟨M, a, x, N, O, h1, h2, h3, _⟩ := h.ex
  rw [← h3]; exact h2.rows
end Go.Proofs.YtkibgflbidkalaaDoor
