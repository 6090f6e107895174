/- StoT. -/
import Derived.Test.YtjeinblcpejpnabGreatDoorStoSJ

/- A store: a log is claimed; Compact where there is nothing to do; a new hand. -/
namespace Go.Proofs.YtjeinblcpejpnabGreatDoor
open Go.RowKit Go.WideShapes

/-- A log is claimed, or the machine fell. -/
theorem claimE_end {n : Nat} {M : CM} {m : Man} {a : Nat} {hand : List Ent} {N O : List Tb} (h : Inv n M m a hand N O) {L : List Int} {M0 : CM} (hA : Adv (m.lg :: (m.nw ++ m.od)) M L M0) (hp : M0.pend = none) (hg : 1 ≤ goodN M.wk L) :
    ((claimS rdErase M0 L).e = 0 ∧ ClaimOk (fun M b => M.pg b = []) M0 L (claimS rdErase M0 L).M (claimS rdErase M0 L).L (claimS rdErase M0 L).b 0) ∨ ((claimS rdErase M0 L).e = 9 ∧ ¬ M.left < 0 ∧ (claimS rdErase M0 L).M.wk = M.wk ∧ FellOk (n + 3) (claimS rdErase M0 L).M (· = rowsE hand N O)) := by
  have hbw0 : ∀ b, M0.bd b = true → M0.wk b = true := fun b hb => by
    rw [hA.wk]
    rcases hA.bw b hb with h' | h'
    · exact h.bw b h'
    · exact h'
  have hC := (claimS_is rdErase M0 L).ok rdErase_ok hp hbw0
  rcases hC.end_ with ⟨h0, _⟩ | ⟨h8, hg8, _⟩ | ⟨h9, hl, q, hq1, hq2, hq3, hq4⟩
  · rw [h0] at hC
    exact .inl ⟨h0, hC⟩
  · rw [hA.wk] at hg8; omega
  · have hA3 := hA.trans hC.adv
    refine .inr ⟨h9, fun hn => hl (by rw [hA.left hn]; exact hn), hA3.wk, fun how => ⟨m, a, hand, N, O, ?_, rfl, restart_left _ _, (restart_far hq1 how).2.1⟩⟩
    have := h.fall hA3 hq1 hq2 (fun hm => hq4 (hA.mono _ hm)) how
    exact this.keep (fun _ _ => rfl) (fun _ _ => rfl) this.nst.up rfl this.bw (fun b => by have := this.wr b; omega) (by omega)
set_option maxRecDepth 20000 in
set_option maxHeartbeats 1000000 in
theorem compact_none (n : Nat) (w : World) (S : List Nat) (sb cb : Nat) (M : CM) (m : Man) (a : Nat) (x : SMem) (O : List Tb) (h : StoAt w S sb cb M m a x) (hI : Inv n M m a (x.ns.map Nd.e) [] O) :
    Calls Tryz.prog 20 #[.pointer (some ⟨sb, 0, none⟩)] w fun e w' => OpEnd (n + 3) w w' S sb cb M (· = rowsE (x.ns.map Nd.e) [] O) (· = rowsE (x.ns.map Nd.e) [] O) (CompQ M m (x.ns.map Nd.e)) e := by
  have hup := hI.nst.up
  have k0 := h.blk.cell 0
  have k3 := h.blk.cell 3
  simp [storeC] at k0 k3
  have HD : Hid (Calls Tryz.prog 48 #[.pointer (some ⟨cb, 0, none⟩)] w fun e w' => e = .returned (.bool false) ∧ w = w') := by
    have := down_any cb M w h.chip
    rw [show downB M = false by unfold downB; rw [hup]; rfl] at this
    exact this.mono fun _ _ h => ⟨h.1, h.2.symm⟩
  have hnl : m.nw.length = 0 := by rw [hI.nw]; rfl
  rw [hnl] at k3
  have HR : Hid (OpEnd (n + 3) w w S sb cb M (· = rowsE (x.ns.map Nd.e) [] O) (· = rowsE (x.ns.map Nd.e) [] O) (CompQ M m (x.ns.map Nd.e)) (.returned .nilIface)) :=
    .ok M m a x S [] O rfl h (hI.keep (fun _ _ => rfl) (fun _ _ => rfl) hup rfl hI.bw (fun b => Nat.le_trans (hI.wr b) (by omega)) (by omega)) rfl (fun _ => rfl) (fun _ h _ => h) rfl (Kp.refl _ _) (fun b hb => .inl hb) ⟨rfl, rfl, rfl, fun _ _ => rfl, fun _ h => h⟩
  clear h hI hup hnl
  go_enter Tryz.func20, Tryz.ntmps20
  go_wp2_with (go_at_call 48; refine HD.out.mono ?_; rintro e w0 ⟨rfl, rfl⟩)
  go_ret
  exact HR.out
theorem compact_any (n : Nat) (w : World) (S : List Nat) (sb cb : Nat) (M : CM) (m : Man) (a : Nat) (x : SMem) (N O : List Tb) (h : StoAt w S sb cb M m a x) (hI : Inv n M m a (x.ns.map Nd.e) N O) (hub : M.left ≤ 9223372036854775807) (hn : n ≤ 90000) :
    Calls Tryz.prog 20 #[.pointer (some ⟨sb, 0, none⟩)] w fun e w' => OpEnd (n + 3) w w' S sb cb M (· = rowsE (x.ns.map Nd.e) N O) (· = rowsE (x.ns.map Nd.e) N O) (CompQ M m (x.ns.map Nd.e)) e := by
  cases N with
  | nil => exact compact_none n w S sb cb M m a x O h hI
  | cons y r => exact compact_some n w S sb cb M m a x (y :: r) O h hI hub hn (by simp)
def withH (x : SMem) (hb : Nat) : SMem := ⟨x.a1, x.c1, x.a2, x.c2, hb, []⟩
/-- A store with a new hand. -/
theorem StoAt.newHand {w w' : World} {S : List Nat} {sb cb : Nat} {M : CM} {m : Man} {a : Nat} {x : SMem} {hb : Nat} (h : StoAt w S sb cb M m a x) (hp : M.pend = none) (hx : Ext w w') (hb0 : w.heap.size ≤ hb) (ht : Tow w' hb []) : StoAt (w'.setCell ⟨sb, 6, none⟩ (.pointer (some ⟨hb, 0, none⟩))) (S ++ [hb]) sb cb M m a (withH x hb) := by
  have h' := h.ext hx
  have hs := h.lt _ h.cS.2
  have hc := h.lt _ h.cS.1
  have hg := h.glob.lt
  have hhl := ht.lt hb (by simp)
  have hK : Kp w' (w'.setCell ⟨sb, 6, none⟩ (.pointer (some ⟨hb, 0, none⟩))) [sb] := Kp.set w' (by simp) _
  have hold : ∀ b ∈ S, ¬ b = hb := fun b hb' e => by have := h.lt b hb'; omega
  refine ⟨h'.chip.oth hp h.sc _ _, h'.glob.kp hK (fun hm => by simp at hm; exact h.gS (hm ▸ h.cS.2)), ?_, h'.nw.kp hK (fun p e => by simp [(h.d1 p e).2.1]), h'.od.kp hK (fun p e => by simp [(h.d2 p e).2.1]), ht.kp hK (fun b hb' => ?_), h.sc, fun b hb' => ?_, fun p e => ⟨(h.d1 p e).1, (h.d1 p e).2.1, ?_⟩, fun p e => ⟨(h.d2 p e).1, (h.d2 p e).2.1, ?_⟩, ⟨by simp [h.cS.1], by simp [h.cS.2]⟩, fun b hb' => ?_, fun p e => ?_, fun hm => ?_, fun b hb' => ?_⟩
  · have := h'.blk.set 6 (.pointer (some ⟨hb, 0, none⟩))
    exact this
  · simp at hb'; simp; omega
  · have : b = hb := by simpa [withH] using hb'
    omega
  · have := hold _ (h.aS p (.inl e))
    simp [withH]; exact this
  · have := hold _ (h.aS p (.inr e))
    simp [withH]; exact this
  · have : b = hb := by simpa [withH] using hb'
    simp [this]
  · have : p.block ∈ S := h.aS p e
    simp [this]
  · rcases List.mem_append.1 hm with hm | hm
    · exact h.gS hm
    · simp at hm; omega
  · have hsz := hK.size
    rcases List.mem_append.1 hb' with hm | hm
    · exact Nat.lt_of_lt_of_le (h'.lt b hm) hsz
    · simp at hm; subst hm; exact Nat.lt_of_lt_of_le hhl hsz
/-- What layHand says of the store besides. -/
def LayQ (M : CM) (m : Man) (N : List Tb) (M' : CM) (m' : Man) (hand' : List Ent) (N' : List Tb) : Prop := hand' = [] ∧ (∃ g : Nat, m'.lg = (g : Int) ∧ M'.pg g = [] ∧ M.bd g = false ∧ M.wk g = false) ∧ (∀ b : Nat, (b : Int) ∈ m'.nw → (b : Int) ∈ m.nw ∨ M.bd b = false) ∧ N'.length ≤ N.length + 3
end Go.Proofs.YtjeinblcpejpnabGreatDoor
