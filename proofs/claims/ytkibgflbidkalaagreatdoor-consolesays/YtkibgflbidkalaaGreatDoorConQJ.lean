/- StoUX ConQ. -/
import Derived.Test.YtkibgflbidkalaaGreatDoorStoOJ
import Derived.Deep.RegionWith
import Derived.Test.YtkibgflbidkalaaGreatDoorConNJ
import Derived.Deep.RegionHeld3

/- A store in memory, exactly: what is at hand is laid. -/
namespace Go.Proofs.YtkibgflbidkalaaGreatDoor
open Go.RowKit Go.WideShapes

structure StoX (n : Nat) (w w' : World) (S : List Nat) (sb cb : Nat) (M : CM) (m : Man) (a : Nat) (hand : List Ent) (N O : List Tb) : Prop where
  ex : ∃ S' x', StoAt w' S' sb cb M m a x' ∧ x'.ns.map Nd.e = hand ∧ Inv n M m a hand N O ∧ Kp w w' S ∧ ∀ b ∈ S', b ∈ S ∨ w.heap.size ≤ b
set_option maxRecDepth 20000 in
set_option maxHeartbeats 8000000 in
theorem layHandX (n : Nat) (w : World) (S : List Nat) (sb cb : Nat) (M : CM) (m : Man) (a : Nat) (x : SMem) (N O : List Tb) (h : StoAt w S sb cb M m a x) (hI : Inv n M m a (x.ns.map Nd.e) N O) (hub : M.left ≤ 9223372036854775807) (hn : n ≤ 90000) (hN : N.length ≤ 2) (hneg : M.left < 0) :
    Calls Tryz.prog 102 #[.pointer (some ⟨sb, 0, none⟩)] w fun e w' => e = .returned .nilIface ∧ StoX (n + 3) w w' S sb cb (noteM (claimS rdErase (layS M (names m) (partsE 14 (x.ns.map Nd.e))).M (layS M (names m) (partsE 14 (x.ns.map Nd.e))).L).M a (manTxt (layHM m (claimS rdErase (layS M (names m) (partsE 14 (x.ns.map Nd.e))).M (layS M (names m) (partsE 14 (x.ns.map Nd.e))).L).b (layS M (names m) (partsE 14 (x.ns.map Nd.e))).bs))) (layHM m (claimS rdErase (layS M (names m) (partsE 14 (x.ns.map Nd.e))).M (layS M (names m) (partsE 14 (x.ns.map Nd.e))).L).b (layS M (names m) (partsE 14 (x.ns.map Nd.e))).bs) (noteAt (claimS rdErase (layS M (names m) (partsE 14 (x.ns.map Nd.e))).M (layS M (names m) (partsE 14 (x.ns.map Nd.e))).L).M a) [] (zipTb (layS M (names m) (partsE 14 (x.ns.map Nd.e))).bs (partsE 14 (x.ns.map Nd.e)) ++ N) O := by
  have hup := hI.nst.up
  obtain ⟨hh1, hh2, hh3⟩ := hI.hand
  have hnsl : x.ns.length ≤ 32 := by simpa using hh3
  have hpl : (partsE 14 (x.ns.map Nd.e)).length ≤ 3 := by rw [partsE_len]; unfold partsN; omega
  have hL : ((layS M (names m) (partsE 14 (x.ns.map Nd.e))).e = 0 ∧ LaidOk M (names m) (partsE 14 (x.ns.map Nd.e)) (layS M (names m) (partsE 14 (x.ns.map Nd.e))).M (layS M (names m) (partsE 14 (x.ns.map Nd.e))).L (layS M (names m) (partsE 14 (x.ns.map Nd.e))).bs) ∨ ((layS M (names m) (partsE 14 (x.ns.map Nd.e))).e = 9 ∧ ¬ M.left < 0 ∧ (layS M (names m) (partsE 14 (x.ns.map Nd.e))).M.wk = M.wk ∧ FellOk (n + 3) (layS M (names m) (partsE 14 (x.ns.map Nd.e))).M (· = rowsE (x.ns.map Nd.e) N O)) := lay_end (ps := partsE 14 (x.ns.map Nd.e)) hI (Adv.refl _ _) hup (fun k hk => by have := good_few hI; omega) (partsE_ok hh2 hh1) (by omega)
  have k0 := h.blk.cell 0
  have k1 := h.blk.cell 1
  have k2 := h.blk.cell 2
  have k3 := h.blk.cell 3
  have k4 := h.blk.cell 4
  have k6 := h.blk.cell 6
  simp [storeC] at k0 k1 k2 k3 k4 k6
  have hnm := (man_names hI.ok).1
  have hclt := h.chip.lt
  have hslt := h.blk.lt
  have hsc := h.sc
  have CU : Hid (∀ W, Ext w W → Calls Tryz.prog 23 #[.agg #[.int .i64 m.ep, .int .i64 m.lg, .slice x.a1 m.nw.length x.c1, .slice x.a2 m.od.length x.c2]] W fun e w' => e = .returned (.pointer (some ⟨W.heap.size + 1, 0, none⟩)) ∧ Blk w' (W.heap.size + 1) (usedC (names m)) 99 ∧ Ext W w') := fun W hx => inUse_any m x.a1 x.a2 x.c1 x.c2 W (by rw [hI.nw, hI.od]; have := hI.few; have := hI.few'; simp; omega) (fun y hy => by have := hnm y hy; omega) (h.nw.ext hx) (h.od.ext hx)
  have CH : Hid (∀ W, Ext w W → Calls Tryz.prog 131 #[.pointer (some ⟨x.hb, 0, none⟩)] W fun e w' => ∃ v, e = .returned v ∧ Lst W w' v (x.ns.map Nd.e)) := fun W hx => tall_any x.hb x.ns W (h.tow.ext hx) (by omega)
  have CL : Hid (∀ (W : World) ub ao c, ChipAt W cb M → Blk W ub (usedC (names m)) 99 → ¬ ub = cb → (x.ns.map Nd.e).length ≤ c → EntsAt W ao (x.ns.map Nd.e) → (∀ a, ao = some a → ¬ a.block = cb ∧ ¬ a.block = ub) → Calls Tryz.prog 104 #[.pointer (some ⟨cb, 0, none⟩), .pointer (some ⟨ub, 0, none⟩), .slice ao (x.ns.map Nd.e).length c] W fun e w' => LayD (layS M (names m) (partsE 14 (x.ns.map Nd.e))) W w' cb ub e) := fun W ub ao c h1 h2 h3 h4 h5 h6 =>
    lay_all cb ub ao c (x.ns.map Nd.e) M (names m) W h1 h2 h3 hub hup hI.bw (fun b => by have := hI.wr b; omega) (by simp; omega) h4 h5 h6 (partsE_ok hh2 hh1)
  have HH : Hid (StoAt w S sb cb M m a x) := h
  have HCE : Hid (∀ W, Ext w W → W.cell? ⟨sb, 0, none⟩ = some (.pointer (some ⟨cb, 0, none⟩)) ∧ W.cell? ⟨sb, 6, none⟩ = some (.pointer (some ⟨x.hb, 0, none⟩))) := fun W hx => ⟨hx.cell k0, hx.cell k6⟩
  have HCK : Hid (∀ W, Kp w W [cb] → W.cell? ⟨sb, 0, none⟩ = some (.pointer (some ⟨cb, 0, none⟩)) ∧ W.cell? ⟨sb, 3, none⟩ = some (.slice x.a1 m.nw.length x.c1) ∧ W.cell? ⟨sb, 4, none⟩ = some (.slice x.a2 m.od.length x.c2) ∧ W.cell? ⟨sb, 6, none⟩ = some (.pointer (some ⟨x.hb, 0, none⟩))) := fun W hK => ⟨hK.cell (by simp [hsc]) k0, hK.cell (by simp [hsc]) k3, hK.cell (by simp [hsc]) k4, hK.cell (by simp [hsc]) k6⟩
  have hwub : ¬ w.heap.size + 1 = cb := by omega
  have HK5 : Hid (∀ W W', Kp w W [cb] → Kp W W' [cb, w.heap.size + 1] → Kp w W' [cb]) := fun W W' hx hK => hx.new hK (fun y hy => by simp at hy; rcases hy with rfl | rfl; simp; right; omega)
  have HNB : Hid (∀ {w2 W : World} (pb : Nat), w.heap.size + 1 < w2.heap.size → Ext w2 W → W.heap.size ≤ pb → ¬ pb = cb ∧ ¬ pb = w.heap.size + 1) := fun pb h1 h2 h3 => by have := h2.size; omega
  rcases hL with ⟨he0, hLO⟩ | ⟨he9, hl9, hw9, hf9⟩
  · have hub1 := hLO.adv.leq _ hub (by decide)
    have hwr1 : ∀ b, (layS M (names m) (partsE 14 (x.ns.map Nd.e))).M.wr b ≤ 90001 := fun b => by have h1 := (hLO.adv.wr b).1; have h2 := hI.wr b; omega
    have hCE := claimE_end hI hLO.adv hLO.up (by have h1 := good_few hI; have h2 := hLO.good; unfold names at *; omega)
    have CC : Hid (∀ W, ChipAt W cb (layS M (names m) (partsE 14 (x.ns.map Nd.e))).M → Blk W (w.heap.size + 1) (usedC (layS M (names m) (partsE 14 (x.ns.map Nd.e))).L) 99 → Calls Tryz.prog 22 #[.pointer (some ⟨cb, 0, none⟩), .pointer (some ⟨w.heap.size + 1, 0, none⟩), .func (.func 24) #[.pointer (some ⟨cb, 0, none⟩)] #[]] W fun e w' => ClaimD (claimS rdErase (layS M (names m) (partsE 14 (x.ns.map Nd.e))).M (layS M (names m) (partsE 14 (x.ns.map Nd.e))).L) W w' cb (w.heap.size + 1) e) := fun W h1 h2 => (claimE_any cb (w.heap.size + 1) (layS M (names m) (partsE 14 (x.ns.map Nd.e))).M (layS M (names m) (partsE 14 (x.ns.map Nd.e))).L W h1 h2 hwub hub1 hLO.up (fun b => by have := hwr1 b; omega)).mono fun e w' h => h.det
    have HLR : Hid (∀ W W' ub e, LayD (layS M (names m) (partsE 14 (x.ns.map Nd.e))) W W' cb ub e → ∃ ao c, e = .returned (.tuple #[.slice ao (layS M (names m) (partsE 14 (x.ns.map Nd.e))).bs.length c, .nilIface]) ∧ NumsAt W' ao (intsN (layS M (names m) (partsE 14 (x.ns.map Nd.e))).bs) ∧ (∀ a, ao = some a → W.heap.size ≤ a.block ∧ a.block < W'.heap.size) ∧ ChipAt W' cb (layS M (names m) (partsE 14 (x.ns.map Nd.e))).M ∧ Blk W' ub (usedC (layS M (names m) (partsE 14 (x.ns.map Nd.e))).L) 99 ∧ Kp W W' [cb, ub]) := fun W W' ub e hd => by
      obtain ⟨⟨ao, c, h1, h2, h3⟩, h4, h5, h6⟩ := hd
      rw [he0] at h1
      exact ⟨ao, c, h1, h2, h3, h4, h5, h6⟩
    rcases hCE with ⟨ce0, hCO⟩ | ⟨ce9, cl9, cw9, cf9⟩
    · obtain ⟨hNx, hrow⟩ := layHand_next hI (by omega) hN hLO hCO
      have hcup : (claimS rdErase (layS M (names m) (partsE 14 (x.ns.map Nd.e))).M (layS M (names m) (partsE 14 (x.ns.map Nd.e))).L).M.pend = none := by
        rcases hCO.end_ with ⟨_, _, _, _, _, h5, _⟩ | ⟨c, _⟩ | ⟨c, _⟩
        · exact h5
        · cases c
        · cases c
      have hA2 := hLO.adv.trans hCO.adv
      have hNE := note_end hI hA2 hcup hNx rfl hrow
      have hub2 := hA2.leq _ hub (by decide)
      have hwr2 : WrOk (claimS rdErase (layS M (names m) (partsE 14 (x.ns.map Nd.e))).M (layS M (names m) (partsE 14 (x.ns.map Nd.e))).L).M := fun b _ => by have h1 := (hA2.wr b).1; have h2 := hI.wr b; omega
      have hep0 := (manFault_ep hI.ok).1
      have hepn := hI.ep
      have HCR : Hid (∀ W W' e, ClaimD (claimS rdErase (layS M (names m) (partsE 14 (x.ns.map Nd.e))).M (layS M (names m) (partsE 14 (x.ns.map Nd.e))).L) W W' cb (w.heap.size + 1) e → e = .returned (.tuple #[.int .i64 ((claimS rdErase (layS M (names m) (partsE 14 (x.ns.map Nd.e))).M (layS M (names m) (partsE 14 (x.ns.map Nd.e))).L).b : Int), .nilIface]) ∧ ChipAt W' cb (claimS rdErase (layS M (names m) (partsE 14 (x.ns.map Nd.e))).M (layS M (names m) (partsE 14 (x.ns.map Nd.e))).L).M ∧ Kp W W' [cb, w.heap.size + 1]) := fun W W' e hd => ⟨by have := hd.ret; rw [ce0] at this; exact this, hd.chip, hd.kept⟩
      obtain ⟨nl, hnl⟩ : ∃ nl, nl = (intsN (layS M (names m) (partsE 14 (x.ns.map Nd.e))).bs ++ m.nw).length := ⟨_, rfl⟩
      have hnl2 : (layHM m (claimS rdErase (layS M (names m) (partsE 14 (x.ns.map Nd.e))).M (layS M (names m) (partsE 14 (x.ns.map Nd.e))).L).b (layS M (names m) (partsE 14 (x.ns.map Nd.e))).bs).nw.length = nl := hnl.symm
      have hbl : (intsN (layS M (names m) (partsE 14 (x.ns.map Nd.e))).bs).length = (layS M (names m) (partsE 14 (x.ns.map Nd.e))).bs.length := by simp [intsN]
      have hb6 : (intsN (layS M (names m) (partsE 14 (x.ns.map Nd.e))).bs).length + m.nw.length ≤ 100 := by
        rw [hbl, hLO.len, hI.nw]; have := hI.few; simp; omega
      have CCat : Hid (∀ W b t ao c, Kp w W [cb] → NumsAt W ao (intsN (layS M (names m) (partsE 14 (x.ns.map Nd.e))).bs) → Blk W b #[.slice ao (layS M (names m) (partsE 14 (x.ns.map Nd.e))).bs.length c, .slice x.a1 m.nw.length x.c1] t → Calls Tryz.prog 42 #[.slice (some ⟨b, 0, none⟩) 2 2] W fun e w' => ∃ ao c, e = .returned (.slice ao nl c) ∧ NumsAt w' ao (intsN (layS M (names m) (partsE 14 (x.ns.map Nd.e))).bs ++ m.nw) ∧ Ext W w' ∧ ∀ a, ao = some a → W.heap.size ≤ a.block ∧ a.block < w'.heap.size) := fun W b t ao c h1 h2 h3 => by
        rw [← hbl] at h3
        have := concatNN W b ao x.a1 c x.c1 (intsN (layS M (names m) (partsE 14 (x.ns.map Nd.e))).bs) m.nw t h3 h2 (HH.out.nw.kp h1 (fun p e => by simp [(HH.out.d1 p e).1])) hb6
        rw [← hnl] at this
        exact this
      have HN7 : Hid (∀ {w4 w5 w7 : World} {ao : Option Addr}, w.heap.size + 1 < w4.heap.size → NumsAt w5 ao (intsN (layS M (names m) (partsE 14 (x.ns.map Nd.e))).bs) → (∀ a, ao = some a → w4.heap.size ≤ a.block ∧ a.block < w5.heap.size) → Kp w5 w7 [cb, w.heap.size + 1] → NumsAt w7 ao (intsN (layS M (names m) (partsE 14 (x.ns.map Nd.e))).bs)) := fun h1 h2 h3 h4 => h2.kp h4 (fun p e => by have := h3 p e; simp; omega)
      have hA2far : Apart w sb cb x x.a2 := ⟨h.d2, fun p e => h.lt _ (h.aS p (.inr e)), fun p e hg => h.gS (hg ▸ h.aS p (.inr e))⟩
      have CTN : Hid (∀ W, Calls Tryz.prog 50 #[] W fun e w' => e = .returned (.pointer (some ⟨W.heap.size, 0, none⟩)) ∧ Tow w' W.heap.size [] ∧ Ext W w') := fun W => (tnew_any W).mono fun e w' ⟨h1, h2⟩ => by subst h2; exact ⟨h1, tow_new W, (Ext.refl W).alloc _⟩
      rcases hNE with ⟨ne, ni, np, nk, nl', nq⟩ | ⟨ne, nl', nk, nf⟩
      · have CN : Hid (∀ W ao c, Kp w W [cb] → ChipAt W cb (claimS rdErase (layS M (names m) (partsE 14 (x.ns.map Nd.e))).M (layS M (names m) (partsE 14 (x.ns.map Nd.e))).L).M → NumsAt W ao (intsN (layS M (names m) (partsE 14 (x.ns.map Nd.e))).bs ++ m.nw) → (∀ p, ao = some p → w.heap.size ≤ p.block ∧ p.block < W.heap.size) → Calls Tryz.prog 107 #[.pointer (some ⟨sb, 0, none⟩), .agg #[.int .i64 0, .int .i64 ((claimS rdErase (layS M (names m) (partsE 14 (x.ns.map Nd.e))).M (layS M (names m) (partsE 14 (x.ns.map Nd.e))).L).b : Int), .slice ao nl c, .slice x.a2 m.od.length x.c2]] W fun e w' => e = .returned .nilIface ∧ StoAt w' (S ++ addrB ao ++ addrB x.a2) sb cb (noteM (claimS rdErase (layS M (names m) (partsE 14 (x.ns.map Nd.e))).M (layS M (names m) (partsE 14 (x.ns.map Nd.e))).L).M a (manTxt (layHM m (claimS rdErase (layS M (names m) (partsE 14 (x.ns.map Nd.e))).M (layS M (names m) (partsE 14 (x.ns.map Nd.e))).L).b (layS M (names m) (partsE 14 (x.ns.map Nd.e))).bs))) (layHM m (claimS rdErase (layS M (names m) (partsE 14 (x.ns.map Nd.e))).M (layS M (names m) (partsE 14 (x.ns.map Nd.e))).L).b (layS M (names m) (partsE 14 (x.ns.map Nd.e))).bs) (noteAt (claimS rdErase (layS M (names m) (partsE 14 (x.ns.map Nd.e))).M (layS M (names m) (partsE 14 (x.ns.map Nd.e))).L).M a) (withA x ao c x.a2 x.c2) ∧ Kp W w' [cb, sb]) := fun W ao c h1 h2 h3 h4 => by
          have := note_sto W S sb cb (claimS rdErase (layS M (names m) (partsE 14 (x.ns.map Nd.e))).M (layS M (names m) (partsE 14 (x.ns.map Nd.e))).L).M m a x (layHM m (claimS rdErase (layS M (names m) (partsE 14 (x.ns.map Nd.e))).M (layS M (names m) (partsE 14 (x.ns.map Nd.e))).L).b (layS M (names m) (partsE 14 (x.ns.map Nd.e))).bs) 0 ao x.a2 c x.c2 (HH.out.chg h1 h2) hI.nst.le hub2 hwr2 rfl (by show m.ep + 1 ≤ 100000; omega) (by omega) hNx.ok h3 (HH.out.od.kp h1 (fun p e => by simp [(HH.out.d2 p e).1])) (HH.out.apart h4) ⟨hA2far.d, fun p e => Nat.lt_of_lt_of_le (hA2far.lt p e) h1.size, hA2far.g⟩ ne np
          rw [hnl2] at this
          exact this
        have _HR : Hid (rowsE [] (zipTb (layS M (names m) (partsE 14 (x.ns.map Nd.e))).bs (partsE 14 (x.ns.map Nd.e)) ++ N) O = rowsE (x.ns.map Nd.e) N O) := hrow
        have NI : Hid (Inv (n + 2) (noteM (claimS rdErase (layS M (names m) (partsE 14 (x.ns.map Nd.e))).M (layS M (names m) (partsE 14 (x.ns.map Nd.e))).L).M a (manTxt (layHM m (claimS rdErase (layS M (names m) (partsE 14 (x.ns.map Nd.e))).M (layS M (names m) (partsE 14 (x.ns.map Nd.e))).L).b (layS M (names m) (partsE 14 (x.ns.map Nd.e))).bs))) (layHM m (claimS rdErase (layS M (names m) (partsE 14 (x.ns.map Nd.e))).M (layS M (names m) (partsE 14 (x.ns.map Nd.e))).L).b (layS M (names m) (partsE 14 (x.ns.map Nd.e))).bs) (noteAt (claimS rdErase (layS M (names m) (partsE 14 (x.ns.map Nd.e))).M (layS M (names m) (partsE 14 (x.ns.map Nd.e))).L).M a) [] (zipTb (layS M (names m) (partsE 14 (x.ns.map Nd.e))).bs (partsE 14 (x.ns.map Nd.e)) ++ N) O) := ni
        have NL : Hid ((M.left < 0 → (noteM (claimS rdErase (layS M (names m) (partsE 14 (x.ns.map Nd.e))).M (layS M (names m) (partsE 14 (x.ns.map Nd.e))).L).M a (manTxt (layHM m (claimS rdErase (layS M (names m) (partsE 14 (x.ns.map Nd.e))).M (layS M (names m) (partsE 14 (x.ns.map Nd.e))).L).b (layS M (names m) (partsE 14 (x.ns.map Nd.e))).bs))).left = M.left) ∧ (∀ k, M.left ≤ k → 0 ≤ k → (noteM (claimS rdErase (layS M (names m) (partsE 14 (x.ns.map Nd.e))).M (layS M (names m) (partsE 14 (x.ns.map Nd.e))).L).M a (manTxt (layHM m (claimS rdErase (layS M (names m) (partsE 14 (x.ns.map Nd.e))).M (layS M (names m) (partsE 14 (x.ns.map Nd.e))).L).b (layS M (names m) (partsE 14 (x.ns.map Nd.e))).bs))).left ≤ k) ∧ (noteM (claimS rdErase (layS M (names m) (partsE 14 (x.ns.map Nd.e))).M (layS M (names m) (partsE 14 (x.ns.map Nd.e))).L).M a (manTxt (layHM m (claimS rdErase (layS M (names m) (partsE 14 (x.ns.map Nd.e))).M (layS M (names m) (partsE 14 (x.ns.map Nd.e))).L).b (layS M (names m) (partsE 14 (x.ns.map Nd.e))).bs))).wk = M.wk) := ⟨nl', nq, nk⟩
        have NP : Hid ((noteM (claimS rdErase (layS M (names m) (partsE 14 (x.ns.map Nd.e))).M (layS M (names m) (partsE 14 (x.ns.map Nd.e))).L).M a (manTxt (layHM m (claimS rdErase (layS M (names m) (partsE 14 (x.ns.map Nd.e))).M (layS M (names m) (partsE 14 (x.ns.map Nd.e))).L).b (layS M (names m) (partsE 14 (x.ns.map Nd.e))).bs))).pend = none) := np
        clear hA2far hNx hrow hcup hA2 hub2 hwr2 hep0 hepn ce0 hCO ne np nl' nq nk ni hub1 hwr1 hLO he0 hnm hup hpl hnsl hN h hI hub hn hh1 hh2 hh3 hnl hnl2 hbl hb6 hneg
        generalize layHM m (claimS rdErase (layS M (names m) (partsE 14 (x.ns.map Nd.e))).M (layS M (names m) (partsE 14 (x.ns.map Nd.e))).L).b (layS M (names m) (partsE 14 (x.ns.map Nd.e))).bs = m' at *
        generalize noteM (claimS rdErase (layS M (names m) (partsE 14 (x.ns.map Nd.e))).M (layS M (names m) (partsE 14 (x.ns.map Nd.e))).L).M a (manTxt m') = M' at *
        generalize noteAt (claimS rdErase (layS M (names m) (partsE 14 (x.ns.map Nd.e))).M (layS M (names m) (partsE 14 (x.ns.map Nd.e))).L).M a = a' at *
        generalize (claimS rdErase (layS M (names m) (partsE 14 (x.ns.map Nd.e))).M (layS M (names m) (partsE 14 (x.ns.map Nd.e))).L) = cr at *
        generalize (layS M (names m) (partsE 14 (x.ns.map Nd.e))) = lr at *
        generalize hhd : x.ns.map Nd.e = hd at *
        clear hhd
        go_enter Tryz.func102, Tryz.ntmps102
        go_wp2_with (go_at_call 23; refine (CU.out _ (Ext.refl w)).mono ?_; rintro e w2 ⟨rfl, hu2, hx2⟩; have hu2lt := hu2.lt)
        obtain ⟨s0, s6⟩ := HCE.out _ hx2
        go_region_held3 (fun W => W.cell? ⟨sb, 0, none⟩ = some (.pointer (some ⟨cb, 0, none⟩)) ∧ W.cell? ⟨sb, 6, none⟩ = some (.pointer (some ⟨x.hb, 0, none⟩)))
          (first | (go_keep; done) | exact ⟨(HCK.out _ hk5).1, (HCK.out _ hk5).2.2.2⟩ | exact HCE.out _ hw4)
          (first
            | (go_at_call 131; refine (CH.out _ (by repeat (first | exact hx2 | refine Ext.drew ?_ | refine Ext.drewN ?_ _ | refine Ext.alloc ?_ _))).mono ?_; rintro e w4 ⟨v4, rfl, hL4⟩; have hR4 := hL4.retE (W0 := w2) (by repeat (first | exact Ext.refl w2 | refine Ext.drew ?_ | refine Ext.drewN ?_ _ | refine Ext.alloc ?_ _)); obtain ⟨ao4, c4, hv4, hc4, he4, hb4, hx4⟩ := hR4; subst hv4; have hw4 : Ext w w4 := hx2.trans hx4; have hu4 := hu2.ext hx4)
            | (go_at_call 104; refine (CL.out _ _ ao4 c4 (HH.out.chip.ext hw4) hu4 hwub hc4 he4 (fun p e => HNB.out p.block hu2lt (Ext.refl w2) (hb4 p e).1)).mono ?_; rintro e w5 hd5; obtain ⟨ao5, c5, rfl, hn5, hb5', hch5, hus5, hkp5⟩ := HLR.out _ _ _ _ hd5; have hk5 := HK5.out _ _ (Kp.ofExt hw4 _) hkp5; have hb5 : ∀ p, ao5 = some p → w.heap.size ≤ p.block ∧ p.block < w5.heap.size := fun p e => ⟨Nat.le_trans hw4.size (hb5' p e).1, (hb5' p e).2⟩; have hu5 := hus5.lt))
        obtain ⟨t0, t3, t4, t6⟩ := HCK.out _ hk5
        go_wp2
        go_region_held3 (fun W => W.cell? ⟨sb, 0, none⟩ = some (.pointer (some ⟨cb, 0, none⟩)))
          (first | (go_keep; done) | exact (HCK.out _ hk7).1)
          (first
            | (go_at_call 22; refine (CC.out _ (hch5.ext (by repeat (first | exact Ext.refl w5 | refine Ext.drew ?_ | refine Ext.drewN ?_ _ | refine Ext.alloc ?_ _))) (hus5.ext (by repeat (first | exact Ext.refl w5 | refine Ext.drew ?_ | refine Ext.drewN ?_ _ | refine Ext.alloc ?_ _)))).mono ?_; rintro e w7 hd7; obtain ⟨rfl, hch7, hkp7⟩ := HCR.out _ _ _ hd7; have hk7 := HK5.out _ _ (hk5.trans (Kp.ofExt (by repeat (first | exact Ext.refl w5 | refine Ext.drew ?_ | refine Ext.drewN ?_ _ | refine Ext.alloc ?_ _)) _)) hkp7))
        have hn7 := HN7.out (Nat.lt_of_lt_of_le hu2lt hx4.size) hn5 hb5' (Kp.trans (Kp.ofExt (by repeat (first | exact Ext.refl w5 | refine Ext.drew ?_ | refine Ext.drewN ?_ _ | refine Ext.alloc ?_ _)) _) hkp7)
        obtain ⟨u0, u3, u4, u6⟩ := HCK.out _ hk7
        have hsl7 : sb < w7.heap.size := Nat.lt_of_lt_of_le hslt hk7.size
        go_wp2
        go_region_with (first
            | (go_at_call 42; refine (CCat.out _ _ _ ao5 c5 (hk7.trans (Kp.ofExt (by repeat (first | exact Ext.refl w7 | refine Ext.drew ?_ | refine Ext.drewN ?_ _ | refine Ext.alloc ?_ _)) _)) (hn7.ext (by repeat (first | exact Ext.refl w7 | refine Ext.drew ?_ | refine Ext.drewN ?_ _ | refine Ext.alloc ?_ _))) (by first | exact Blk.new _ _ _ | exact Blk.drewN (Blk.new _ _ _) _ | exact Blk.drew (Blk.new _ _ _))).mono ?_; rintro e w8 ⟨ao8, c8, rfl, hn8, hx8, hb8⟩; have hx78 : Ext w7 w8 := Ext.trans (by repeat (first | exact Ext.refl w7 | refine Ext.drew ?_ | refine Ext.drewN ?_ _ | refine Ext.alloc ?_ _)) hx8; have hk8 := hk7.trans (Kp.ofExt hx78 [cb]); have v3 := hx78.cell u3; have v4 := hx78.cell u4)
            | (go_at_call 107; refine (CN.out _ ao8 c8 hk8 (hch7.ext hx78) hn8 (fun p e => ⟨Nat.le_trans (Nat.le_trans hk7.size (Ext.size (by repeat (first | exact Ext.refl w7 | refine Ext.drew ?_ | refine Ext.drewN ?_ _ | refine Ext.alloc ?_ _)))) (hb8 p e).1, (hb8 p e).2⟩)).mono ?_; rintro e w9 ⟨rfl, hs9, hk9⟩))
        all_goals
          have B9 := hs9.blk
          have hs9' := hs9
          go_wp2_with (go_at_call 50; refine (CTN.out _).mono ?_; rintro e w10 ⟨rfl, ht10, hx10⟩; have z6 := (B9.ext hx10).cell 6; have z6f := (B9.ext hx10).free 6; have z6l := (B9.ext hx10).lt; simp [storeC] at z6)
          go_ret
          have hh := HH.out
          refine ⟨rfl, ⟨S ++ addrB ao8 ++ addrB x.a2 ++ [w9.heap.size], withH (withA x ao8 c8 x.a2 x.c2) w9.heap.size, hs9'.newHand NP.out hx10 (Nat.le_refl _) ht10, rfl, NI.out.keep (fun _ _ => rfl) (fun _ _ => rfl) NI.out.nst.up rfl NI.out.bw (fun b => Nat.le_trans (NI.out.wr b) (by omega)) (by omega), ?_, ?_⟩⟩
          · exact (((hk8.mono (by simp [hh.cS.1])).trans (hk9.mono (by simp [hh.cS.1, hh.cS.2]))).trans (Kp.ofExt hx10 _)).trans (Kp.set _ hh.cS.2 _)
          · intro b hb
            simp only [List.mem_append, List.mem_singleton] at hb
            rcases hb with ((hb | hb) | hb) | hb
            · exact .inl hb
            · obtain ⟨p, hp, e⟩ := mem_addrB.1 hb
              exact .inr (by rw [← e]; exact Nat.le_trans (Nat.le_trans hk7.size (Ext.size (by repeat (first | exact Ext.refl w7 | refine Ext.drew ?_ | refine Ext.drewN ?_ _ | refine Ext.alloc ?_ _)))) (hb8 p hp).1)
            · obtain ⟨p, hp, e⟩ := mem_addrB.1 hb
              exact .inl (by rw [← e]; exact hh.aS p (.inr hp))
            · subst hb
              exact .inr (Nat.le_trans hk8.size hk9.size)
      · exact absurd hneg nl'
    · exact absurd hneg cl9
  · exact absurd hneg hl9
end Go.Proofs.YtkibgflbidkalaaGreatDoor

/- A store in memory, exactly: what is written, what is laid; and a session of such a store. -/
namespace Go.Proofs.YtkibgflbidkalaaGreatDoor
open Go.RowKit Go.WideShapes

theorem many_few (w : World) (S : List Nat) (sb cb : Nat) (M : CM) (m : Man) (a : Nat) (x : SMem) (h : StoAt w S sb cb M m a x) (h3 : m.nw.length < 3) :
    Calls Tryz.prog 101 #[.pointer (some ⟨sb, 0, none⟩)] w fun e w' => e = .returned .nilIface ∧ w = w' := by
  have k3 := h.blk.cell 3
  simp [storeC] at k3
  have hl3 : (m.nw.length : Int) < 3 := by omega
  clear h h3
  go_enter Tryz.func101, Tryz.ntmps101
  go_wp2
  go_ret
  exact ⟨rfl, rfl⟩
set_option maxRecDepth 20000 in
set_option maxHeartbeats 2000000 in
theorem flush_few (n : Nat) (w : World) (S : List Nat) (sb cb : Nat) (M : CM) (m : Man) (a : Nat) (x : SMem) (M' : CM) (m' : Man) (a' : Nat) (N' O : List Tb) (h : StoAt w S sb cb M m a x) (h3 : m.nw.length < 3) (h3' : m'.nw.length < 3)
    (hL : Calls Tryz.prog 102 #[.pointer (some ⟨sb, 0, none⟩)] w fun e w' => e = .returned .nilIface ∧ StoX n w w' S sb cb M' m' a' [] N' O) :
    Calls Tryz.prog 60 #[.pointer (some ⟨sb, 0, none⟩)] w fun e w' => e = .returned .nilIface ∧ StoX n w w' S sb cb M' m' a' [] N' O := by
  have H1 : Hid (Calls Tryz.prog 101 #[.pointer (some ⟨sb, 0, none⟩)] w fun e w' => e = .returned .nilIface ∧ w = w') := many_few w S sb cb M m a x h h3
  have H2 : Hid (Calls Tryz.prog 102 #[.pointer (some ⟨sb, 0, none⟩)] w fun e w' => e = .returned .nilIface ∧ Hid (StoX n w w' S sb cb M' m' a' [] N' O)) := hL
  have H3 : Hid (∀ w1, StoX n w w1 S sb cb M' m' a' [] N' O → Calls Tryz.prog 101 #[.pointer (some ⟨sb, 0, none⟩)] w1 fun e w' => e = .returned .nilIface ∧ w1 = w') := fun w1 hx => by
    obtain ⟨S', x', q1, _⟩ := hx.ex
    exact many_few w1 S' sb cb M' m' a' x' q1 h3'
  clear h h3 h3' hL
  have t1 : True := trivial
  go_enter Tryz.func60, Tryz.ntmps60
  go_wp2_with (first
    | (go_at_call 101; have _t := t1; clear t1; refine H1.out.mono ?_; rintro e w1 ⟨rfl, rfl⟩)
    | (go_at_call 102; refine H2.out.mono ?_; rintro e w2 ⟨rfl, HX2⟩)
    | (go_at_call 101; refine (H3.out _ HX2.out).mono ?_; rintro e w3 ⟨rfl, rfl⟩))
  go_ret
  exact ⟨rfl, HX2.out⟩
set_option maxRecDepth 20000 in
set_option maxHeartbeats 4000000 in
theorem swriteX (n : Nat) (w : World) (S : List Nat) (sb cb : Nat) (M : CM) (m : Man) (a : Nat) (x : SMem) (N O : List Tb) (ao : Option Addr) (cap : Nat) (l : List Ent) (g : Nat) (h : StoAt w S sb cb M m a x) (hI : Inv n M m a (x.ns.map Nd.e) N O) (hub : M.left ≤ 9223372036854775807) (hl : Aside2 w S ao l) (hw : writeF (rowsE (x.ns.map Nd.e) N O) l = 0)
    (hg : m.lg = (g : Int)) (h0 : writeE M (g : Int) (txt (encT l)) = 0) :
    Calls Tryz.prog 57 #[.pointer (some ⟨sb, 0, none⟩), .slice ao l.length cap] w fun e w' => e = .returned .nilIface ∧ StoX n w w' S sb cb (writeM M (g : Int) (txt (encT l))) m a (putsE (x.ns.map Nd.e) l) N O := by
  obtain ⟨hl0, hl4, hbt, _, h64, _⟩ := writeF_ok hw
  have CK : Hid (Calls Tryz.prog 95 #[.pointer (some ⟨sb, 0, none⟩), .slice ao l.length cap] w fun e w' => e = .returned .nilIface ∧ Ext w w') := by
    have := scheck_any n w S sb cb M m a x N O ao cap l h hI hl.at_ hl.lt
    rw [hw] at this; exact this
  have CB : Hid (∀ W, Ext w W → Calls Tryz.prog 96 #[.slice ao l.length cap] W fun e w' => e = .returned (.tuple #[.string (txt (encT l)), .nilIface]) ∧ Ext W w') := fun W hx => by
    have := bytes_any ao cap l W (by omega) (hl.at_.ext hx)
    rw [hbt] at this; exact this
  have k0 := h.blk.cell 0
  have k2 := h.blk.cell 2
  have k6 := h.blk.cell 6
  simp [storeC] at k0 k2 k6
  rw [hg] at k2
  have hsc := h.sc
  have HCK : Hid (∀ W, Kp w W [cb] → W.cell? ⟨sb, 0, none⟩ = some (.pointer (some ⟨cb, 0, none⟩)) ∧ W.cell? ⟨sb, 2, none⟩ = some (.int .i64 (g : Int)) ∧ W.cell? ⟨sb, 6, none⟩ = some (.pointer (some ⟨x.hb, 0, none⟩))) := fun W hK => ⟨hK.cell (by simp [hsc]) k0, hK.cell (by simp [hsc]) k2, hK.cell (by simp [hsc]) k6⟩
  have HCE : Hid (∀ W, Ext w W → W.cell? ⟨sb, 0, none⟩ = some (.pointer (some ⟨cb, 0, none⟩)) ∧ W.cell? ⟨sb, 2, none⟩ = some (.int .i64 (g : Int))) := fun W hx => ⟨hx.cell k0, hx.cell k2⟩
  have hcS : ∀ y ∈ [cb], y ∈ S := by simp [h.cS.1]
  have CW : Hid (∀ W, Ext w W → Calls Tryz.prog 82 #[.pointer (some ⟨cb, 0, none⟩), .int .i64 (g : Int), .string (txt (encT l))] W fun e w5 => e = .returned .nilIface ∧ Kp w w5 [cb] ∧ Hid (Calls Tryz.prog 52 #[.pointer (some ⟨x.hb, 0, none⟩), .slice ao l.length cap] w5 fun e w6 => e = .returned (.tuple #[]) ∧ StoX n w w6 S sb cb (writeM M (g : Int) (txt (encT l))) m a (putsE (x.ns.map Nd.e) l) N O)) := fun W hx => by
    refine (write_any cb (g : Int) (txt (encT l)) M W (h.chip.ext hx) hub (by
      have : (txt (encT l)).size = (encT l).length := by simp [txt, ByteArray.size]
      omega)).mono ?_
    rintro e w5 ⟨he, hc, hgr⟩
    have hK : Kp w w5 [cb] := (Kp.ofExt hx _).trans (Kp.grown hgr)
    rw [h0] at he
    cases log_write hI hg hw with
    | full hf => rw [h0] at hf; rcases hf with hf | hf <;> cases hf
    | fell hf => rw [h0] at hf; cases hf
    | done _ hi hp =>
      refine ⟨he, hK, ?_⟩
      have hs := h.chg hK hc
      have hl5 := hl.kp (hK.mono hcS) (fun b hb => .inl hb)
      have hns : x.ns.length ≤ 32 := by have := hI.hand.2.2; simpa using this
      refine (putAll_any x.hb x.ns ao cap l w5 hs.tow (by omega) hs.glob (fun hh => hs.gS (hs.tS _ hh)) hl5.at_ (fun p e hh => hl5.no p e (hs.tS _ hh))).mono ?_
      rintro e w6 ⟨rfl, hP⟩
      obtain ⟨ms, q1, q2, q3, q4⟩ := hs.putHand hp hP
      refine ⟨rfl, ⟨_, withN x ms, q1, q2, hi, (hK.mono hcS).trans q3, fun b hb => ?_⟩⟩
      rcases q4 b hb with h' | h'
      · exact .inl h'
      · exact .inr (Nat.le_trans hK.size h')
  clear h hI hub hl hw hg hbt hl0 hl4 h64 k0 k2 k6 hsc h0 hcS
  generalize writeM M (g : Int) (txt (encT l)) = M' at *
  generalize putsE (x.ns.map Nd.e) l = hd at *
  generalize txt (encT l) = tx at *
  go_enter Tryz.func57, Tryz.ntmps57
  go_wp2_with (first
    | (go_at_call 95; refine CK.out.mono ?_; rintro e w1 ⟨rfl, hx1⟩)
    | (go_at_call 96; refine (CB.out _ hx1).mono ?_; rintro e w2 ⟨rfl, hx2⟩))
  have hx12 := hx1.trans hx2
  obtain ⟨s0, s2⟩ := HCE.out _ hx12
  go_region_held3 (fun W => W.cell? ⟨sb, 0, none⟩ = some (.pointer (some ⟨cb, 0, none⟩)) ∧ W.cell? ⟨sb, 2, none⟩ = some (.int .i64 (g : Int)))
    (first | (go_keep; done) | exact ⟨(HCK.out _ hk5).1, (HCK.out _ hk5).2.1⟩)
    (first
      | (go_at_call 82; refine (CW.out _ (by repeat (first | exact hx12 | refine Ext.drew ?_ | refine Ext.drewN ?_ _))).mono ?_; rintro e w5 ⟨rfl, hk5, HP⟩))
  obtain ⟨u0, u2, u6⟩ := HCK.out _ hk5
  have q1 := eqErr
  have q2 := eqNil
  go_wp2_with (go_at_call 52; refine HP.out.mono ?_; rintro e w6 ⟨rfl, HO⟩; have HO2 : Hid (StoX n w w6 S sb cb M' m a hd N O) := HO; clear HO)
  go_ret
  exact ⟨rfl, HO2.out⟩
theorem StoX.ses {n : Nat} {w wr w' : World} {rb : Nat} {g : Option (Nat × Obj)} {S : List Nat} {sb cb : Nat} {M : CM} {m : Man} {a : Nat} {hand : List Ent} {N O : List Tb} (h : StoX n wr w' S sb cb M m a hand N O) (hB : Blk wr rb #[.pointer (some ⟨cb, 0, none⟩), .pointer (some ⟨sb, 0, none⟩)] 45) (hr : rb ∉ S) (hS : ∀ b ∈ S, w.heap.size ≤ b) (hw : w.heap.size ≤ rb) (hg : ¬ 1 = rb) (hx : Ext w wr) (ha : Asd wr S rb g) : SesX w w' rb n g M m a hand N O := by
  obtain ⟨S', x', q1, q2, q3, q4, q5⟩ := h.ex
  have hlt := hB.lt
  have hz := hx.size
  refine ⟨⟨S', cb, sb, x', q1, q2, q3, q4.Blk hB hr, fun hm => ?_, fun b hb => ?_, ha.kp q4 q5⟩, hw, hg, Kp.ext hx q4 hS⟩
  · rcases q5 _ hm with h' | h'
    · exact hr h'
    · omega
  · rcases q5 b hb with h' | h'
    · exact hS b h'
    · omega
set_option maxRecDepth 20000 in
set_option maxHeartbeats 2000000 in
theorem sess_writeX {w wr : World} {rb n : Nat} {g : Option (Nat × Obj)} {M : CM} {m : Man} {a : Nat} {hand : List Ent} {N O : List Tb} (h : SesX w wr rb n g M m a hand N O) (t : ByteArray) (l : List Ent) (q : Nat) (hs : t.size ≤ 100000) (hg : Tryz.Glob w) (hp : parseE t = some l) (hub : M.left ≤ 9223372036854775807) (hw : writeF (rowsE hand N O) l = 0)
    (hq : m.lg = (q : Int)) (h0 : writeE M (q : Int) (txt (encT l)) = 0) :
    Calls Tryz.prog 30 #[.pointer (some ⟨rb, 0, none⟩), .string t] wr fun e w' => e = .returned (errV 0) ∧ SesX w w' rb n g (writeM M (q : Int) (txt (encT l))) m a (putsE hand l) N O := by
  have hgr := glob_ext hg h.x
  obtain ⟨S, cb, sb, x, h1, h2, h3, h4, h5, h6, h7⟩ := h.ex
  subst h2
  have h8 := h.ge
  have h9 := h.gl
  have h10 := h.x
  have HP : Hid (Calls Tryz.prog 56 #[.string t] wr fun e w' => ∃ ao c, e = .returned (.tuple #[.slice ao l.length c, .nilIface]) ∧ w'.cell? ⟨rb, 1, none⟩ = some (.pointer (some ⟨sb, 0, none⟩)) ∧ Hid (Calls Tryz.prog 57 #[.pointer (some ⟨sb, 0, none⟩), .slice ao l.length c] w' fun e w2 => e = .returned .nilIface ∧ SesX w w2 rb n g (writeM M (q : Int) (txt (encT l))) m a (putsE (x.ns.map Nd.e) l) N O)) := (parse_some hs hgr hp).mono fun _ w' hh => by
    obtain ⟨ao, c, q1, q2, q3, q4⟩ := hh.ex
    refine ⟨ao, c, q1, (h4.ext q4).cell 1, ?_⟩
    have hA : Aside2 w' S ao l := ⟨q2, fun p e => (q3 p e).2, fun p e hm => by have := h1.lt _ hm; have := (q3 p e).1; omega⟩
    refine (swriteX n w' S sb cb M m a x N O ao c l q (h1.ext q4) h3 hub hA hw hq h0).mono fun _ w2 hh => ?_
    exact ⟨hh.1, hh.2.ses (h4.ext q4) h5 h6 h8 h9 (h10.trans q4) (h7.ext q4)⟩
  clear h1 h3 h4 h5 h6 h7 h8 h9 h10 h hg hgr hp hw h0 hub hq
  generalize writeM M (q : Int) (txt (encT l)) = M' at *
  generalize putsE (x.ns.map Nd.e) l = hd at *
  go_enter Tryz.func30, Tryz.ntmps30
  go_wp2_with (first
    | (go_at_call 56; refine HP.out.mono ?_; rintro e w1 ⟨ao, c, rfl, hc1, HW⟩)
    | (go_at_call 57; refine HW.out.mono ?_; rintro e w2 ⟨rfl, hS2⟩))
  go_ret
  exact ⟨rfl, hS2⟩
theorem sess_flushX {w wr : World} {rb n : Nat} {g : Option (Nat × Obj)} {M : CM} {m : Man} {a : Nat} {hand : List Ent} {N O : List Tb} (h : SesX w wr rb n g M m a hand N O) (hn : n ≤ 90000) (hneg : M.left < 0) (hN : N.length ≤ 2)
    (h3 : (layHM m (claimS rdErase (layS M (names m) (partsE 14 hand)).M (layS M (names m) (partsE 14 hand)).L).b (layS M (names m) (partsE 14 hand)).bs).nw.length < 3) :
    ∃ sb, wr.cell? ⟨rb, 1, none⟩ = some (.pointer (some ⟨sb, 0, none⟩)) ∧ Calls Tryz.prog 60 #[.pointer (some ⟨sb, 0, none⟩)] wr fun e w' => e = .returned .nilIface ∧ SesX w w' rb (n + 3) g (noteM (claimS rdErase (layS M (names m) (partsE 14 hand)).M (layS M (names m) (partsE 14 hand)).L).M a (manTxt (layHM m (claimS rdErase (layS M (names m) (partsE 14 hand)).M (layS M (names m) (partsE 14 hand)).L).b (layS M (names m) (partsE 14 hand)).bs))) (layHM m (claimS rdErase (layS M (names m) (partsE 14 hand)).M (layS M (names m) (partsE 14 hand)).L).b (layS M (names m) (partsE 14 hand)).bs) (noteAt (claimS rdErase (layS M (names m) (partsE 14 hand)).M (layS M (names m) (partsE 14 hand)).L).M a) [] (zipTb (layS M (names m) (partsE 14 hand)).bs (partsE 14 hand) ++ N) O := by
  obtain ⟨S, cb, sb, x, h1, h2, hi, h4, h5, h6, h7⟩ := h.ex
  subst h2
  refine ⟨sb, h4.cell 1, ?_⟩
  have hlen : m.nw.length < 3 := by rw [hi.nw]; simp; omega
  refine (flush_few (n + 3) wr S sb cb M m a x _ _ _ _ O h1 hlen h3 (layHandX n wr S sb cb M m a x N O h1 hi (by omega) hn hN hneg)).mono fun _ _ hh => ⟨hh.1, hh.2.ses h4 h5 h6 h.ge h.gl h.x h7⟩
end Go.Proofs.YtkibgflbidkalaaGreatDoor
