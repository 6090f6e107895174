
/- ManifestSays: what it stands on. -/
import Derived.Test.YtpldeejagomfjaaManT
import Derived.Test.YtpldeejagomfjaaNewA
namespace Go.Proofs.Ytpldeejagomfjaa
open Go.RowKit Go.WideShapes
attribute [local go_sem ↓] Go.wp_at_zero Go.wp_at_succ

/-- What the bytes of a manifest are; none where it may not be. -/
def bT (m : Man) : ByteArray := if manFault m = 0 then manTxt m else ⟨#[]⟩
def manAg (m : Man) (no oo : Option Addr) (nc oc : Nat) : Value := .agg #[.int .i64 m.ep, .int .i64 m.lg, .slice no m.nw.length nc, .slice oo m.od.length oc]
theorem manNat {m : Man} (hf : manFault m = 0) : ∃ E G : Nat, m = ⟨(E : Int), (G : Int), m.nw, m.od⟩ := by
  obtain ⟨hE, hS⟩ := manF_zero hf
  obtain ⟨hr, _, _⟩ := scan_zero hS
  have hG := hr m.lg (by simp)
  obtain ⟨ep, lg, nw, od⟩ := m
  dsimp only at *
  obtain ⟨E, rfl⟩ := Int.eq_ofNat_of_zero_le (show 0 ≤ ep by omega)
  obtain ⟨G, rfl⟩ := Int.eq_ofNat_of_zero_le (show 0 ≤ lg by omega)
  exact ⟨E, G, rfl⟩
theorem bytes_uni (m : Man) (no oo : Option Addr) (nc oc : Nat) (w : World) (hl : m.nw.length + m.od.length ≤ 100) (hn : NumsAt w no m.nw) (ho : NumsAt w oo m.od) :
    Calls Try.prog 70 #[.agg #[.int .i64 m.ep, .int .i64 m.lg, .slice no m.nw.length nc, .slice oo m.od.length oc]] w fun e w' => e = .returned (.tuple #[.string (bT m), errV (manFault m)]) ∧ Ext w w' := by
  by_cases hf : manFault m = 0
  · unfold bT errV
    rw [if_pos hf, if_pos hf]
    exact manBytes_man m no oo nc oc w hn ho hf
  · unfold bT errV
    rw [if_neg hf, if_neg hf]
    exact manBytes_bad m.ep m.lg no oo nc oc m.nw m.od w hl hn ho hf
set_option maxHeartbeats 1000000 in
theorem refBytes_bad (m : Man) (no oo : Option Addr) (nc oc : Nat) (w : World) (hl : m.nw.length + m.od.length ≤ 100) (hn : NumsAt w no m.nw) (ho : NumsAt w oo m.od) (hf : ¬ manFault m = 0) :
    Calls Try.prog 71 #[.agg #[.int .i64 m.ep, .int .i64 m.lg, .slice no m.nw.length nc, .slice oo m.od.length oc]] w fun e w' => e = .returned (.tuple #[.string ⟨#[]⟩, .int .i64 (manFault m)]) ∧ Ext w w' := by
  have HC : Hid (∀ o, Calls Try.prog 75 #[.agg #[.int .i64 m.ep, .int .i64 m.lg, .slice no m.nw.length nc, .slice oo m.od.length oc]] (w.alloc o) fun e w' => e = .returned (.int .i64 (manFault m)) ∧ Ext (w.alloc o) w') := fun o => refFault_any m.ep m.lg no oo nc oc m.nw m.od (w.alloc o) hl (hn.ext ((Ext.refl w).alloc o)) (ho.ext ((Ext.refl w).alloc o))
  have hp : 0 < manFault m := by have := manF_cases m.ep m.lg m.nw m.od; unfold manFault at hf ⊢; omega
  clear hn ho hf
  generalize manFault m = f at *
  go_enter Try.func71, Try.ntmps71
  go_wp2_with (go_at_call 75; refine (HC.out _).mono ?_; rintro e w2 ⟨rfl, hx2⟩)
  go_ret2
  exact ⟨rfl, ((Ext.refl w).alloc _).trans hx2⟩
theorem refBytes_uni (m : Man) (no oo : Option Addr) (nc oc : Nat) (w : World) (hl : m.nw.length + m.od.length ≤ 100) (hn : NumsAt w no m.nw) (ho : NumsAt w oo m.od) :
    Calls Try.prog 71 #[.agg #[.int .i64 m.ep, .int .i64 m.lg, .slice no m.nw.length nc, .slice oo m.od.length oc]] w fun e w' => e = .returned (.tuple #[.string (bT m), .int .i64 (manFault m)]) ∧ Ext w w' := by
  by_cases hf : manFault m = 0
  · unfold bT
    rw [if_pos hf, hf]
    obtain ⟨E, G, hm⟩ := manNat hf
    rw [hm] at hf ⊢
    exact refBytes_ok E G no oo nc oc m.nw m.od w hl hn ho hf
  · unfold bT
    rw [if_neg hf]
    exact refBytes_bad m no oo nc oc w hl hn ho hf
def zM : Man := ⟨0, 0, [], []⟩
def pM (o : Option Man) : Man := o.getD zM
def pF (o : Option Man) : Int := if o.isSome then 0 else 4
theorem pF_pos (o : Option Man) : 0 ≤ pF o := by unfold pF; split <;> omega
theorem parse_uni (s : ByteArray) (w : World) (hs : s.size ≤ 100) :
    Calls Try.prog 72 #[.string s] w fun e w' => ∃ a1 c1 a2 c2, e = .returned (.tuple #[.agg #[.int .i64 (pM (parseB s.data.toList)).ep, .int .i64 (pM (parseB s.data.toList)).lg, .slice a1 (pM (parseB s.data.toList)).nw.length c1, .slice a2 (pM (parseB s.data.toList)).od.length c2], errV (pF (parseB s.data.toList))]) ∧ NumsAt w' a1 (pM (parseB s.data.toList)).nw ∧ NumsAt w' a2 (pM (parseB s.data.toList)).od ∧ Ext w w' := by
  refine (parseM_any s w hs).mono ?_
  rintro e w' (⟨m, v, h1, rfl, ⟨a1, c1, a2, c2, rfl, q1, q2⟩, hx⟩ | ⟨h1, rfl, hx⟩)
  · rw [h1]; exact ⟨a1, c1, a2, c2, rfl, q1.at, q2.at, hx⟩
  · rw [h1]; exact ⟨none, 0, none, 0, rfl, NumsAt.nil _ _, NumsAt.nil _ _, hx⟩
theorem of_uni (s : ByteArray) (w : World) (hs : s.size ≤ 100) :
    Calls Try.prog 73 #[.string s] w fun e w' => ∃ a1 c1 a2 c2, e = .returned (.tuple #[.agg #[.int .i64 (pM (parseB s.data.toList)).ep, .int .i64 (pM (parseB s.data.toList)).lg, .slice a1 (pM (parseB s.data.toList)).nw.length c1, .slice a2 (pM (parseB s.data.toList)).od.length c2], .int .i64 (pF (parseB s.data.toList))]) ∧ NumsAt w' a1 (pM (parseB s.data.toList)).nw ∧ NumsAt w' a2 (pM (parseB s.data.toList)).od ∧ Ext w w' := by
  refine (ofM_any s w hs).mono ?_
  rintro e w' (⟨m, v, h1, rfl, ⟨a1, c1, a2, c2, rfl, q1, q2⟩, hx⟩ | ⟨h1, rfl, hx⟩)
  · rw [h1]; exact ⟨a1, c1, a2, c2, rfl, q1.at, q2.at, hx⟩
  · rw [h1]; exact ⟨none, 0, none, 0, rfl, NumsAt.nil _ _, NumsAt.nil _ _, hx⟩
theorem pM_len (l : List UInt8) (h : l.length ≤ 100) : (pM (parseB l)).nw.length ≤ 1000 ∧ (pM (parseB l)).od.length ≤ 1000 := by
  unfold parseB
  split
  · simp [pM, rawM, numsOf]; omega
  · simp [pM, zM]
theorem same_uni (f : Int) (hf : 0 ≤ f) (w : World) :
    Calls Try.prog 19 #[errV f, .int .i64 f] w fun e w' => e = .returned (.bool true) ∧ Ext w w' := by
  refine (same_self f hf w).mono ?_
  rintro e w' ⟨rfl, rfl⟩
  exact ⟨rfl, Ext.refl _⟩
theorem check_uni (m : Man) (no oo : Option Addr) (nc oc : Nat) (w : World) (hl : m.nw.length + m.od.length ≤ 100) (hn : NumsAt w no m.nw) (ho : NumsAt w oo m.od) :
    Calls Try.prog 74 #[.agg #[.int .i64 m.ep, .int .i64 m.lg, .slice no m.nw.length nc, .slice oo m.od.length oc]] w fun e w' => e = .returned (errV (manFault m)) ∧ Ext w w' :=
  manCheck_any m.ep m.lg no oo nc oc m.nw m.od w hl hn ho
theorem fault_pos (m : Man) : 0 ≤ manFault m := manF_cases _ _ _ _

theorem find_new (cb : Nat) (W : World) (h : ChipAt W cb newM) : Calls Try.prog 77 #[.pointer (some ⟨cb, 0, none⟩)] W fun e w' => e = .returned (.tuple #[.agg #[.int .i64 0, .int .i64 0, .slice none 0 0, .slice none 0 0], .int .i64 0, .iface 123 (.int .i64 4)]) ∧ Ext W w' := by
  refine (find_up cb newM W h rfl).mono ?_
  rw [find_none new_nst]
  rintro e w' ⟨hx, ⟨m, a', a1, c1, a2, c2, h1, _⟩ | ⟨_, rfl⟩⟩
  · cases h1
  · exact ⟨rfl, hx⟩
theorem find_man (cb a : Nat) (M : CM) (m : Man) (w : World) (h : ChipAt w cb M) (hs : Nst M a (some m)) :
    Calls Try.prog 77 #[.pointer (some ⟨cb, 0, none⟩)] w fun e w' => ∃ a1 c1 a2 c2, e = .returned (.tuple #[.agg #[.int .i64 m.ep, .int .i64 m.lg, .slice a1 m.nw.length c1, .slice a2 m.od.length c2], .int .i64 (a : Int), .nilIface]) ∧ NumsAt w' a1 m.nw ∧ NumsAt w' a2 m.od ∧ Ext w w' := by
  refine (find_up cb M w h (by unfold downB; rw [hs.up]; rfl)).mono ?_
  rw [find_some hs]
  rintro e w' ⟨hx, ⟨m', a', a1, c1, a2, c2, h1, rfl, q1, q2⟩ | ⟨h1, _⟩⟩
  · cases h1; exact ⟨a1, c1, a2, c2, rfl, q1.at, q2.at, hx⟩
  · cases h1
/-- Note, where all goes well. -/
theorem note_man (cb a : Nat) (M : CM) (m : Man) (o : Option Man) (no oo : Option Addr) (nc oc : Nat) (w : World) (h : ChipAt w cb M) (hub : M.left ≤ 9223372036854775807) (hwr : WrOk M) (hs : Nst M a o) (hn : NumsAt w no m.nw) (ho : NumsAt w oo m.od) (hf : manFault m = 0) (he : noteE M a (manTxt m) = 0) :
    Calls Try.prog 78 #[.pointer (some ⟨cb, 0, none⟩), .int .i64 (a : Int), .agg #[.int .i64 m.ep, .int .i64 m.lg, .slice no m.nw.length nc, .slice oo m.od.length oc]] w fun e w' => e = .returned (.tuple #[.int .i64 (noteAt M a : Int), .nilIface]) ∧ ChipAt w' cb (noteM M a (manTxt m)) ∧ w.grownBy w' (some cb) := by
  refine (note_any cb a M m no oo nc oc w h hs.le hub hwr hn ho hf).mono ?_
  rintro e w' ⟨h1 | h1, h2, h3⟩
  · exact ⟨h1.2, h2, h3⟩
  · exact absurd he h1.1
set_option maxRecDepth 20000 in
set_option maxHeartbeats 2000000 in
theorem manifests_true (w : World) : Calls Try.prog 68 #[] w fun e w' => e = .returned (.bool true) ∧ Ext w w' := by
  have f15 : manFault (man 1 5) = 0 := man_ok (by decide) (by decide) (by decide) (by decide)
  have ok0 := note_nst new_nst f15 (fun m h => by cases h)
  obtain ⟨e0, s0⟩ : noteE newM 0 (manTxt (man 1 5)) = 0 ∧ Nst (noteM newM 0 (manTxt (man 1 5))) (noteAt newM 0) (some (man 1 5)) := by
    rcases ok0.end_ with ⟨h1, h2, h3⟩ | ⟨_, h2, _⟩
    · exact ⟨h1, h2⟩
    · exact absurd (by decide) h2
  have hat0 : noteAt newM 0 = 0 := rfl
  rw [hat0] at s0
  have HN0 : Hid (∀ W cb, ChipAt W cb newM → Calls Try.prog 78 #[.pointer (some ⟨cb, 0, none⟩), .int .i64 0, .agg #[.int .i64 1, .int .i64 5, .slice none 0 0, .slice none 0 0]] W fun e w' => e = .returned (.tuple #[.int .i64 0, .nilIface]) ∧ ChipAt w' cb (noteM newM 0 (manTxt (man 1 5))) ∧ W.grownBy w' (some cb)) := fun W cb hc =>
    note_well cb 0 newM 1 5 none none none 0 0 W hc (by decide) (fun b _ => by simp [newM]) new_nst f15 e0
  generalize noteM newM 0 (manTxt (man 1 5)) = M1 at *
  have HFI : Hid (∀ W cb, ChipAt W cb M1 → Calls Try.prog 77 #[.pointer (some ⟨cb, 0, none⟩)] W fun e w' => ∃ a1 c1 a2 c2, e = .returned (.tuple #[.agg #[.int .i64 1, .int .i64 5, .slice a1 0 c1, .slice a2 0 c2], .int .i64 0, .nilIface]) ∧ Ext W w') := fun W cb hc => find_well cb 0 M1 1 5 W hc s0
  have HSM : Hid (∀ W, Calls Try.prog 19 #[.nilIface, .int .i64 0] W fun e w' => e = .returned (.bool true) ∧ w' = W) := fun W => same_nil 0 W
  clear ok0 e0 hat0 s0
  go_enter Try.func68, Try.ntmps68
  go_wp2_with (first
    | (go_at_call 29; refine (new_any _).mono ?_; rintro e w1 ⟨rfl, hc1, hx1, hs1⟩)
    | (go_at_call 78; refine (HN0.out _ _ hc1).mono ?_; rintro e w2 ⟨rfl, hc2, hg2⟩)
    | (go_at_call 77; refine (HFI.out _ _ hc2).mono ?_; rintro e w3 ⟨a1, c1, a2, c2, rfl, hx3⟩)
    | (go_at_call 19; refine (HSM.out _).mono ?_; rintro e w4 ⟨rfl, rfl⟩))
  go_ret
  exact ⟨rfl, ((hx1.grown hg2 (fun k hk => by cases hk; exact Nat.le_refl _)).trans hx3).alloc _⟩
end Go.Proofs.Ytpldeejagomfjaa
