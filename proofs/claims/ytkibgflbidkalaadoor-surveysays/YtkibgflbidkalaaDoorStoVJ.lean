/- StoU StoV. -/
import Derived.Test.YtkibgflbidkalaaDoorStoTJ
import Derived.Deep.RegionWith

/- A store in memory: what is at hand is laid. -/
namespace Go.Proofs.YtkibgflbidkalaaDoor
open Go.RowKit Go.WideShapes

theorem Kp.drewN (w : World) (q : Nat) (S : List Nat) : Kp w (w.drewN q) S := ⟨rfl, rfl, rfl, Nat.le_refl _, fun _ _ _ => rfl⟩
set_option maxRecDepth 20000 in
set_option maxHeartbeats 8000000 in
theorem layHand_any (n : Nat) (w : World) (S : List Nat) (sb cb : Nat) (M : CM) (m : Man) (a : Nat) (x : SMem) (N O : List Tb) (h : StoAt w S sb cb M m a x) (hI : Inv n M m a (x.ns.map Nd.e) N O) (hub : M.left ≤ 9223372036854775807) (hn : n ≤ 90000) (hN : N.length ≤ 2) :
    Calls Tryd.prog 27 #[.pointer (some ⟨sb, 0, none⟩)] w fun e w' => OpEnd (n + 3) w w' S sb cb M (· = rowsE (x.ns.map Nd.e) N O) (· = rowsE (x.ns.map Nd.e) N O) (LayQ M m N) e := by
  have hup := hI.nst.up
  obtain ⟨hh1, hh2, hh3⟩ := hI.hand
  have hnsl : x.ns.length ≤ 32 := by simpa using hh3
  have hpl : (partsE 14 (x.ns.map Nd.e)).length ≤ 3 := by rw [partsE_len]; unfold partsN; omega
  have hL : ((layS M (names m) (partsE 14 (x.ns.map Nd.e))).e = 0 ∧ LaidOk M (names m) (partsE 14 (x.ns.map Nd.e)) (layS M (names m) (partsE 14 (x.ns.map Nd.e))).M (layS M (names m) (partsE 14 (x.ns.map Nd.e))).L (layS M (names m) (partsE 14 (x.ns.map Nd.e))).bs) ∨ ((layS M (names m) (partsE 14 (x.ns.map Nd.e))).e = 9 ∧ ¬ M.left < 0 ∧ (layS M (names m) (partsE 14 (x.ns.map Nd.e))).M.wk = M.wk ∧ FellOk (n + 3) (layS M (names m) (partsE 14 (x.ns.map Nd.e))).M (· = rowsE (x.ns.map Nd.e) N O)) := lay_end (ps := partsE 14 (x.ns.map Nd.e)) hI (Adv.refl _ _) hup (fun k hk => by have := good_few hI; omega) (partsE_ok hh2 hh1) (by omega)
  have k0 := h.blk.cell 0
  have k1 := h.blk.cell 1
  have k2 := h.blk.cell 2
  have k3 := h.blk.cell 3
  have k4 := h.blk.cell 4
  have k6 := h.blk.cell 6
  simp [storeC] at k0 k1 k2 k3 k4 k6
  have hnm := (man_names hI.ok).1
  have hclt := h.chip.lt
  have hslt := h.blk.lt
  have hsc := h.sc
  have CU : Hid (∀ W, Ext w W → Calls Tryd.prog 31 #[.agg #[.int .i64 m.ep, .int .i64 m.lg, .slice x.a1 m.nw.length x.c1, .slice x.a2 m.od.length x.c2]] W fun e w' => e = .returned (.pointer (some ⟨W.heap.size + 1, 0, none⟩)) ∧ Blk w' (W.heap.size + 1) (usedC (names m)) 115 ∧ Ext W w') := fun W hx => inUse_any m x.a1 x.a2 x.c1 x.c2 W (by rw [hI.nw, hI.od]; have := hI.few; have := hI.few'; simp; omega) (fun y hy => by have := hnm y hy; omega) (h.nw.ext hx) (h.od.ext hx)
  have CH : Hid (∀ W, Ext w W → Calls Tryd.prog 45 #[.pointer (some ⟨x.hb, 0, none⟩)] W fun e w' => ∃ v, e = .returned v ∧ Lst W w' v (x.ns.map Nd.e)) := fun W hx => tall_any x.hb x.ns W (h.tow.ext hx) (by omega)
  have CL : Hid (∀ (W : World) ub ao c, ChipAt W cb M → Blk W ub (usedC (names m)) 115 → ¬ ub = cb → (x.ns.map Nd.e).length ≤ c → EntsAt W ao (x.ns.map Nd.e) → (∀ a, ao = some a → ¬ a.block = cb ∧ ¬ a.block = ub) → Calls Tryd.prog 30 #[.pointer (some ⟨cb, 0, none⟩), .pointer (some ⟨ub, 0, none⟩), .slice ao (x.ns.map Nd.e).length c] W fun e w' => LayD (layS M (names m) (partsE 14 (x.ns.map Nd.e))) W w' cb ub e) := fun W ub ao c h1 h2 h3 h4 h5 h6 =>
    lay_all cb ub ao c (x.ns.map Nd.e) M (names m) W h1 h2 h3 hub hup hI.bw (fun b => by have := hI.wr b; omega) (by simp; omega) h4 h5 h6 (partsE_ok hh2 hh1)
  have HH : Hid (StoAt w S sb cb M m a x) := h
  have HCE : Hid (∀ W, Ext w W → W.cell? ⟨sb, 0, none⟩ = some (.pointer (some ⟨cb, 0, none⟩)) ∧ W.cell? ⟨sb, 6, none⟩ = some (.pointer (some ⟨x.hb, 0, none⟩))) := fun W hx => ⟨hx.cell k0, hx.cell k6⟩
  have HCK : Hid (∀ W, Kp w W [cb] → W.cell? ⟨sb, 0, none⟩ = some (.pointer (some ⟨cb, 0, none⟩)) ∧ W.cell? ⟨sb, 3, none⟩ = some (.slice x.a1 m.nw.length x.c1) ∧ W.cell? ⟨sb, 4, none⟩ = some (.slice x.a2 m.od.length x.c2) ∧ W.cell? ⟨sb, 6, none⟩ = some (.pointer (some ⟨x.hb, 0, none⟩))) := fun W hK => ⟨hK.cell (by simp [hsc]) k0, hK.cell (by simp [hsc]) k3, hK.cell (by simp [hsc]) k4, hK.cell (by simp [hsc]) k6⟩
  have hwub : ¬ w.heap.size + 1 = cb := by omega
  have HK5 : Hid (∀ W W', Kp w W [cb] → Kp W W' [cb, w.heap.size + 1] → Kp w W' [cb]) := fun W W' hx hK => hx.new hK (fun y hy => by simp at hy; rcases hy with rfl | rfl; simp; right; omega)
  have HNB : Hid (∀ {w2 W : World} (pb : Nat), w.heap.size + 1 < w2.heap.size → Ext w2 W → W.heap.size ≤ pb → ¬ pb = cb ∧ ¬ pb = w.heap.size + 1) := fun pb h1 h2 h3 => by have := h2.size; omega
  rcases hL with ⟨he0, hLO⟩ | ⟨he9, hl9, hw9, hf9⟩
  · have hub1 := hLO.adv.leq _ hub (by decide)
    have hwr1 : ∀ b, (layS M (names m) (partsE 14 (x.ns.map Nd.e))).M.wr b ≤ 90001 := fun b => by have h1 := (hLO.adv.wr b).1; have h2 := hI.wr b; omega
    have hCE := claimE_end hI hLO.adv hLO.up (by have h1 := good_few hI; have h2 := hLO.good; unfold names at *; omega)
    have CC : Hid (∀ W, ChipAt W cb (layS M (names m) (partsE 14 (x.ns.map Nd.e))).M → Blk W (w.heap.size + 1) (usedC (layS M (names m) (partsE 14 (x.ns.map Nd.e))).L) 115 → Calls Tryd.prog 38 #[.pointer (some ⟨cb, 0, none⟩), .pointer (some ⟨w.heap.size + 1, 0, none⟩), .func (.func 39) #[.pointer (some ⟨cb, 0, none⟩)] #[]] W fun e w' => ClaimD (claimS rdErase (layS M (names m) (partsE 14 (x.ns.map Nd.e))).M (layS M (names m) (partsE 14 (x.ns.map Nd.e))).L) W w' cb (w.heap.size + 1) e) := fun W h1 h2 => (claimE_any cb (w.heap.size + 1) (layS M (names m) (partsE 14 (x.ns.map Nd.e))).M (layS M (names m) (partsE 14 (x.ns.map Nd.e))).L W h1 h2 hwub hub1 hLO.up (fun b => by have := hwr1 b; omega)).mono fun e w' h => h.det
    have HLR : Hid (∀ W W' ub e, LayD (layS M (names m) (partsE 14 (x.ns.map Nd.e))) W W' cb ub e → ∃ ao c, e = .returned (.tuple #[.slice ao (layS M (names m) (partsE 14 (x.ns.map Nd.e))).bs.length c, .nilIface]) ∧ NumsAt W' ao (intsN (layS M (names m) (partsE 14 (x.ns.map Nd.e))).bs) ∧ (∀ a, ao = some a → W.heap.size ≤ a.block ∧ a.block < W'.heap.size) ∧ ChipAt W' cb (layS M (names m) (partsE 14 (x.ns.map Nd.e))).M ∧ Blk W' ub (usedC (layS M (names m) (partsE 14 (x.ns.map Nd.e))).L) 115 ∧ Kp W W' [cb, ub]) := fun W W' ub e hd => by
      obtain ⟨⟨ao, c, h1, h2, h3⟩, h4, h5, h6⟩ := hd
      rw [he0] at h1
      exact ⟨ao, c, h1, h2, h3, h4, h5, h6⟩
    rcases hCE with ⟨ce0, hCO⟩ | ⟨ce9, cl9, cw9, cf9⟩
    · obtain ⟨hNx, hrow⟩ := layHand_next hI (by omega) hN hLO hCO
      have hcup : (claimS rdErase (layS M (names m) (partsE 14 (x.ns.map Nd.e))).M (layS M (names m) (partsE 14 (x.ns.map Nd.e))).L).M.pend = none := by
        rcases hCO.end_ with ⟨_, _, _, _, _, h5, _⟩ | ⟨c, _⟩ | ⟨c, _⟩
        · exact h5
        · cases c
        · cases c
      have hA2 := hLO.adv.trans hCO.adv
      have hNE := note_end hI hA2 hcup hNx rfl hrow
      have hub2 := hA2.leq _ hub (by decide)
      have hwr2 : WrOk (claimS rdErase (layS M (names m) (partsE 14 (x.ns.map Nd.e))).M (layS M (names m) (partsE 14 (x.ns.map Nd.e))).L).M := fun b _ => by have h1 := (hA2.wr b).1; have h2 := hI.wr b; omega
      have hep0 := (manFault_ep hI.ok).1
      have hepn := hI.ep
      have HCR : Hid (∀ W W' e, ClaimD (claimS rdErase (layS M (names m) (partsE 14 (x.ns.map Nd.e))).M (layS M (names m) (partsE 14 (x.ns.map Nd.e))).L) W W' cb (w.heap.size + 1) e → e = .returned (.tuple #[.int .i64 ((claimS rdErase (layS M (names m) (partsE 14 (x.ns.map Nd.e))).M (layS M (names m) (partsE 14 (x.ns.map Nd.e))).L).b : Int), .nilIface]) ∧ ChipAt W' cb (claimS rdErase (layS M (names m) (partsE 14 (x.ns.map Nd.e))).M (layS M (names m) (partsE 14 (x.ns.map Nd.e))).L).M ∧ Kp W W' [cb, w.heap.size + 1]) := fun W W' e hd => ⟨by have := hd.ret; rw [ce0] at this; exact this, hd.chip, hd.kept⟩
      obtain ⟨nl, hnl⟩ : ∃ nl, nl = (intsN (layS M (names m) (partsE 14 (x.ns.map Nd.e))).bs ++ m.nw).length := ⟨_, rfl⟩
      have hnl2 : (layHM m (claimS rdErase (layS M (names m) (partsE 14 (x.ns.map Nd.e))).M (layS M (names m) (partsE 14 (x.ns.map Nd.e))).L).b (layS M (names m) (partsE 14 (x.ns.map Nd.e))).bs).nw.length = nl := hnl.symm
      have hbl : (intsN (layS M (names m) (partsE 14 (x.ns.map Nd.e))).bs).length = (layS M (names m) (partsE 14 (x.ns.map Nd.e))).bs.length := by simp [intsN]
      have hb6 : (intsN (layS M (names m) (partsE 14 (x.ns.map Nd.e))).bs).length + m.nw.length ≤ 100 := by
        rw [hbl, hLO.len, hI.nw]; have := hI.few; simp; omega
      have CCat : Hid (∀ W b t ao c, Kp w W [cb] → NumsAt W ao (intsN (layS M (names m) (partsE 14 (x.ns.map Nd.e))).bs) → Blk W b #[.slice ao (layS M (names m) (partsE 14 (x.ns.map Nd.e))).bs.length c, .slice x.a1 m.nw.length x.c1] t → Calls Tryd.prog 57 #[.slice (some ⟨b, 0, none⟩) 2 2] W fun e w' => ∃ ao c, e = .returned (.slice ao nl c) ∧ NumsAt w' ao (intsN (layS M (names m) (partsE 14 (x.ns.map Nd.e))).bs ++ m.nw) ∧ Ext W w' ∧ ∀ a, ao = some a → W.heap.size ≤ a.block ∧ a.block < w'.heap.size) := fun W b t ao c h1 h2 h3 => by
        rw [← hbl] at h3
        have := concatNN W b ao x.a1 c x.c1 (intsN (layS M (names m) (partsE 14 (x.ns.map Nd.e))).bs) m.nw t h3 h2 (HH.out.nw.kp h1 (fun p e => by simp [(HH.out.d1 p e).1])) hb6
        rw [← hnl] at this
        exact this
      have HN7 : Hid (∀ {w4 w5 w7 : World} {ao : Option Addr}, w.heap.size + 1 < w4.heap.size → NumsAt w5 ao (intsN (layS M (names m) (partsE 14 (x.ns.map Nd.e))).bs) → (∀ a, ao = some a → w4.heap.size ≤ a.block ∧ a.block < w5.heap.size) → Kp w5 w7 [cb, w.heap.size + 1] → NumsAt w7 ao (intsN (layS M (names m) (partsE 14 (x.ns.map Nd.e))).bs)) := fun h1 h2 h3 h4 => h2.kp h4 (fun p e => by have := h3 p e; simp; omega)
      have hA2far : Apart w sb cb x x.a2 := ⟨h.d2, fun p e => h.lt _ (h.aS p (.inr e)), fun p e hg => h.gS (hg ▸ h.aS p (.inr e))⟩
      have HFAR := note_far (s := (manTxt (layHM m (claimS rdErase (layS M (names m) (partsE 14 (x.ns.map Nd.e))).M (layS M (names m) (partsE 14 (x.ns.map Nd.e))).L).b (layS M (names m) (partsE 14 (x.ns.map Nd.e))).bs))) (hI.adv hA2 hcup).nst (by have := (manTxt_le hNx.ok).1; omega)
      have hQ : LayQ M m N (noteM (claimS rdErase (layS M (names m) (partsE 14 (x.ns.map Nd.e))).M (layS M (names m) (partsE 14 (x.ns.map Nd.e))).L).M a (manTxt (layHM m (claimS rdErase (layS M (names m) (partsE 14 (x.ns.map Nd.e))).M (layS M (names m) (partsE 14 (x.ns.map Nd.e))).L).b (layS M (names m) (partsE 14 (x.ns.map Nd.e))).bs))) (layHM m (claimS rdErase (layS M (names m) (partsE 14 (x.ns.map Nd.e))).M (layS M (names m) (partsE 14 (x.ns.map Nd.e))).L).b (layS M (names m) (partsE 14 (x.ns.map Nd.e))).bs) [] (zipTb (layS M (names m) (partsE 14 (x.ns.map Nd.e))).bs (partsE 14 (x.ns.map Nd.e)) ++ N) := by
        rcases hCO.end_ with ⟨_, c1, c2, c3, c4, c5, c6, c7, c8, c9⟩ | ⟨c, _⟩ | ⟨c, _⟩
        · refine ⟨rfl, ⟨(claimS rdErase (layS M (names m) (partsE 14 (x.ns.map Nd.e))).M (layS M (names m) (partsE 14 (x.ns.map Nd.e))).L).b, rfl, by rw [HFAR.pg _ c1]; exact c6, ?_, by rw [← hA2.wk]; exact c7⟩, fun b hb => ?_, by rw [List.length_append, zipTb_len hLO.len]; omega⟩
          · cases hh : M.bd (claimS rdErase (layS M (names m) (partsE 14 (x.ns.map Nd.e))).M (layS M (names m) (partsE 14 (x.ns.map Nd.e))).L).b with
            | false => rfl
            | true => have := hA2.bd _ hh; rw [c8] at this; cases this
          · rcases List.mem_append.1 (show (b : Int) ∈ intsN (layS M (names m) (partsE 14 (x.ns.map Nd.e))).bs ++ m.nw from hb) with hb | hb
            · simp [intsN] at hb
              obtain ⟨c, hc, e⟩ := hb
              obtain rfl : c = b := by omega
              exact .inr (hLO.nb c hc)
            · exact .inl hb
        · cases c
        · cases c
      have CTN : Hid (∀ W, Calls Tryd.prog 42 #[] W fun e w' => e = .returned (.pointer (some ⟨W.heap.size, 0, none⟩)) ∧ Tow w' W.heap.size [] ∧ Ext W w') := fun W => (tnew_any W).mono fun e w' ⟨h1, h2⟩ => by subst h2; exact ⟨h1, tow_new W, (Ext.refl W).alloc _⟩
      rcases hNE with ⟨ne, ni, np, nk, nl', nq⟩ | ⟨ne, nl', nk, nf⟩
      · have CN : Hid (∀ W ao c, Kp w W [cb] → ChipAt W cb (claimS rdErase (layS M (names m) (partsE 14 (x.ns.map Nd.e))).M (layS M (names m) (partsE 14 (x.ns.map Nd.e))).L).M → NumsAt W ao (intsN (layS M (names m) (partsE 14 (x.ns.map Nd.e))).bs ++ m.nw) → (∀ p, ao = some p → w.heap.size ≤ p.block ∧ p.block < W.heap.size) → Calls Tryd.prog 34 #[.pointer (some ⟨sb, 0, none⟩), .agg #[.int .i64 0, .int .i64 ((claimS rdErase (layS M (names m) (partsE 14 (x.ns.map Nd.e))).M (layS M (names m) (partsE 14 (x.ns.map Nd.e))).L).b : Int), .slice ao nl c, .slice x.a2 m.od.length x.c2]] W fun e w' => e = .returned .nilIface ∧ StoAt w' (S ++ addrB ao ++ addrB x.a2) sb cb (noteM (claimS rdErase (layS M (names m) (partsE 14 (x.ns.map Nd.e))).M (layS M (names m) (partsE 14 (x.ns.map Nd.e))).L).M a (manTxt (layHM m (claimS rdErase (layS M (names m) (partsE 14 (x.ns.map Nd.e))).M (layS M (names m) (partsE 14 (x.ns.map Nd.e))).L).b (layS M (names m) (partsE 14 (x.ns.map Nd.e))).bs))) (layHM m (claimS rdErase (layS M (names m) (partsE 14 (x.ns.map Nd.e))).M (layS M (names m) (partsE 14 (x.ns.map Nd.e))).L).b (layS M (names m) (partsE 14 (x.ns.map Nd.e))).bs) (noteAt (claimS rdErase (layS M (names m) (partsE 14 (x.ns.map Nd.e))).M (layS M (names m) (partsE 14 (x.ns.map Nd.e))).L).M a) (withA x ao c x.a2 x.c2) ∧ Kp W w' [cb, sb]) := fun W ao c h1 h2 h3 h4 => by
          have := note_sto W S sb cb (claimS rdErase (layS M (names m) (partsE 14 (x.ns.map Nd.e))).M (layS M (names m) (partsE 14 (x.ns.map Nd.e))).L).M m a x (layHM m (claimS rdErase (layS M (names m) (partsE 14 (x.ns.map Nd.e))).M (layS M (names m) (partsE 14 (x.ns.map Nd.e))).L).b (layS M (names m) (partsE 14 (x.ns.map Nd.e))).bs) 0 ao x.a2 c x.c2 (HH.out.chg h1 h2) hI.nst.le hub2 hwr2 rfl (by show m.ep + 1 ≤ 100000; omega) (by omega) hNx.ok h3 (HH.out.od.kp h1 (fun p e => by simp [(HH.out.d2 p e).1])) (HH.out.apart h4) ⟨hA2far.d, fun p e => Nat.lt_of_lt_of_le (hA2far.lt p e) h1.size, hA2far.g⟩ ne np
          rw [hnl2] at this
          exact this
        have HR : Hid (rowsE [] (zipTb (layS M (names m) (partsE 14 (x.ns.map Nd.e))).bs (partsE 14 (x.ns.map Nd.e)) ++ N) O = rowsE (x.ns.map Nd.e) N O) := hrow
        have NI : Hid (Inv (n + 2) (noteM (claimS rdErase (layS M (names m) (partsE 14 (x.ns.map Nd.e))).M (layS M (names m) (partsE 14 (x.ns.map Nd.e))).L).M a (manTxt (layHM m (claimS rdErase (layS M (names m) (partsE 14 (x.ns.map Nd.e))).M (layS M (names m) (partsE 14 (x.ns.map Nd.e))).L).b (layS M (names m) (partsE 14 (x.ns.map Nd.e))).bs))) (layHM m (claimS rdErase (layS M (names m) (partsE 14 (x.ns.map Nd.e))).M (layS M (names m) (partsE 14 (x.ns.map Nd.e))).L).b (layS M (names m) (partsE 14 (x.ns.map Nd.e))).bs) (noteAt (claimS rdErase (layS M (names m) (partsE 14 (x.ns.map Nd.e))).M (layS M (names m) (partsE 14 (x.ns.map Nd.e))).L).M a) [] (zipTb (layS M (names m) (partsE 14 (x.ns.map Nd.e))).bs (partsE 14 (x.ns.map Nd.e)) ++ N) O) := ni
        have NL : Hid ((M.left < 0 → (noteM (claimS rdErase (layS M (names m) (partsE 14 (x.ns.map Nd.e))).M (layS M (names m) (partsE 14 (x.ns.map Nd.e))).L).M a (manTxt (layHM m (claimS rdErase (layS M (names m) (partsE 14 (x.ns.map Nd.e))).M (layS M (names m) (partsE 14 (x.ns.map Nd.e))).L).b (layS M (names m) (partsE 14 (x.ns.map Nd.e))).bs))).left = M.left) ∧ (∀ k, M.left ≤ k → 0 ≤ k → (noteM (claimS rdErase (layS M (names m) (partsE 14 (x.ns.map Nd.e))).M (layS M (names m) (partsE 14 (x.ns.map Nd.e))).L).M a (manTxt (layHM m (claimS rdErase (layS M (names m) (partsE 14 (x.ns.map Nd.e))).M (layS M (names m) (partsE 14 (x.ns.map Nd.e))).L).b (layS M (names m) (partsE 14 (x.ns.map Nd.e))).bs))).left ≤ k) ∧ (noteM (claimS rdErase (layS M (names m) (partsE 14 (x.ns.map Nd.e))).M (layS M (names m) (partsE 14 (x.ns.map Nd.e))).L).M a (manTxt (layHM m (claimS rdErase (layS M (names m) (partsE 14 (x.ns.map Nd.e))).M (layS M (names m) (partsE 14 (x.ns.map Nd.e))).L).b (layS M (names m) (partsE 14 (x.ns.map Nd.e))).bs))).wk = M.wk) := ⟨nl', nq, nk⟩
        have HQ : Hid (LayQ M m N (noteM (claimS rdErase (layS M (names m) (partsE 14 (x.ns.map Nd.e))).M (layS M (names m) (partsE 14 (x.ns.map Nd.e))).L).M a (manTxt (layHM m (claimS rdErase (layS M (names m) (partsE 14 (x.ns.map Nd.e))).M (layS M (names m) (partsE 14 (x.ns.map Nd.e))).L).b (layS M (names m) (partsE 14 (x.ns.map Nd.e))).bs))) (layHM m (claimS rdErase (layS M (names m) (partsE 14 (x.ns.map Nd.e))).M (layS M (names m) (partsE 14 (x.ns.map Nd.e))).L).b (layS M (names m) (partsE 14 (x.ns.map Nd.e))).bs) [] (zipTb (layS M (names m) (partsE 14 (x.ns.map Nd.e))).bs (partsE 14 (x.ns.map Nd.e)) ++ N)) := hQ
        have NP : Hid ((noteM (claimS rdErase (layS M (names m) (partsE 14 (x.ns.map Nd.e))).M (layS M (names m) (partsE 14 (x.ns.map Nd.e))).L).M a (manTxt (layHM m (claimS rdErase (layS M (names m) (partsE 14 (x.ns.map Nd.e))).M (layS M (names m) (partsE 14 (x.ns.map Nd.e))).L).b (layS M (names m) (partsE 14 (x.ns.map Nd.e))).bs))).pend = none) := np
        clear hQ HFAR hA2far hNx hrow hcup hA2 hub2 hwr2 hep0 hepn ce0 hCO ne np nl' nq nk ni hub1 hwr1 hLO he0 hnm hup hpl hnsl hN h hI hub hn hh1 hh2 hh3 hnl hnl2 hbl hb6
        generalize layHM m (claimS rdErase (layS M (names m) (partsE 14 (x.ns.map Nd.e))).M (layS M (names m) (partsE 14 (x.ns.map Nd.e))).L).b (layS M (names m) (partsE 14 (x.ns.map Nd.e))).bs = m' at *
        generalize noteM (claimS rdErase (layS M (names m) (partsE 14 (x.ns.map Nd.e))).M (layS M (names m) (partsE 14 (x.ns.map Nd.e))).L).M a (manTxt m') = M' at *
        generalize noteAt (claimS rdErase (layS M (names m) (partsE 14 (x.ns.map Nd.e))).M (layS M (names m) (partsE 14 (x.ns.map Nd.e))).L).M a = a' at *
        generalize (claimS rdErase (layS M (names m) (partsE 14 (x.ns.map Nd.e))).M (layS M (names m) (partsE 14 (x.ns.map Nd.e))).L) = cr at *
        generalize (layS M (names m) (partsE 14 (x.ns.map Nd.e))) = lr at *
        generalize hhd : x.ns.map Nd.e = hd at *
        clear hhd
        go_enter Tryd.func27, Tryd.ntmps27
        go_wp2_with (go_at_call 31; refine (CU.out _ (Ext.refl w)).mono ?_; rintro e w2 ⟨rfl, hu2, hx2⟩; have hu2lt := hu2.lt)
        obtain ⟨s0, s6⟩ := HCE.out _ hx2
        go_region_held3 (fun W => W.cell? ⟨sb, 0, none⟩ = some (.pointer (some ⟨cb, 0, none⟩)) ∧ W.cell? ⟨sb, 6, none⟩ = some (.pointer (some ⟨x.hb, 0, none⟩)))
          (first | (go_keep; done) | exact ⟨(HCK.out _ hk5).1, (HCK.out _ hk5).2.2.2⟩ | exact HCE.out _ hw4)
          (first
            | (go_at_call 45; refine (CH.out _ (by repeat (first | exact hx2 | refine Ext.drew ?_ | refine Ext.drewN ?_ _ | refine Ext.alloc ?_ _))).mono ?_; rintro e w4 ⟨v4, rfl, hL4⟩; have hR4 := hL4.retE (W0 := w2) (by repeat (first | exact Ext.refl w2 | refine Ext.drew ?_ | refine Ext.drewN ?_ _ | refine Ext.alloc ?_ _)); obtain ⟨ao4, c4, hv4, hc4, he4, hb4, hx4⟩ := hR4; subst hv4; have hw4 : Ext w w4 := hx2.trans hx4; have hu4 := hu2.ext hx4)
            | (go_at_call 30; refine (CL.out _ _ ao4 c4 (HH.out.chip.ext hw4) hu4 hwub hc4 he4 (fun p e => HNB.out p.block hu2lt (Ext.refl w2) (hb4 p e).1)).mono ?_; rintro e w5 hd5; obtain ⟨ao5, c5, rfl, hn5, hb5', hch5, hus5, hkp5⟩ := HLR.out _ _ _ _ hd5; have hk5 := HK5.out _ _ (Kp.ofExt hw4 _) hkp5; have hb5 : ∀ p, ao5 = some p → w.heap.size ≤ p.block ∧ p.block < w5.heap.size := fun p e => ⟨Nat.le_trans hw4.size (hb5' p e).1, (hb5' p e).2⟩; have hu5 := hus5.lt))
        obtain ⟨t0, t3, t4, t6⟩ := HCK.out _ hk5
        go_wp2
        go_region_held3 (fun W => W.cell? ⟨sb, 0, none⟩ = some (.pointer (some ⟨cb, 0, none⟩)))
          (first | (go_keep; done) | exact (HCK.out _ hk7).1)
          (first
            | (go_at_call 38; refine (CC.out _ (hch5.ext (by repeat (first | exact Ext.refl w5 | refine Ext.drew ?_ | refine Ext.drewN ?_ _ | refine Ext.alloc ?_ _))) (hus5.ext (by repeat (first | exact Ext.refl w5 | refine Ext.drew ?_ | refine Ext.drewN ?_ _ | refine Ext.alloc ?_ _)))).mono ?_; rintro e w7 hd7; obtain ⟨rfl, hch7, hkp7⟩ := HCR.out _ _ _ hd7; have hk7 := HK5.out _ _ (hk5.trans (Kp.ofExt (by repeat (first | exact Ext.refl w5 | refine Ext.drew ?_ | refine Ext.drewN ?_ _ | refine Ext.alloc ?_ _)) _)) hkp7))
        have hn7 := HN7.out (Nat.lt_of_lt_of_le hu2lt hx4.size) hn5 hb5' (Kp.trans (Kp.ofExt (by repeat (first | exact Ext.refl w5 | refine Ext.drew ?_ | refine Ext.drewN ?_ _ | refine Ext.alloc ?_ _)) _) hkp7)
        obtain ⟨u0, u3, u4, u6⟩ := HCK.out _ hk7
        have hsl7 : sb < w7.heap.size := Nat.lt_of_lt_of_le hslt hk7.size
        go_wp2
        go_region_with (first
            | (go_at_call 57; refine (CCat.out _ _ _ ao5 c5 (hk7.trans (Kp.ofExt (by repeat (first | exact Ext.refl w7 | refine Ext.drew ?_ | refine Ext.drewN ?_ _ | refine Ext.alloc ?_ _)) _)) (hn7.ext (by repeat (first | exact Ext.refl w7 | refine Ext.drew ?_ | refine Ext.drewN ?_ _ | refine Ext.alloc ?_ _))) (by first | exact Blk.new _ _ _ | exact Blk.drewN (Blk.new _ _ _) _ | exact Blk.drew (Blk.new _ _ _))).mono ?_; rintro e w8 ⟨ao8, c8, rfl, hn8, hx8, hb8⟩; have hx78 : Ext w7 w8 := Ext.trans (by repeat (first | exact Ext.refl w7 | refine Ext.drew ?_ | refine Ext.drewN ?_ _ | refine Ext.alloc ?_ _)) hx8; have hk8 := hk7.trans (Kp.ofExt hx78 [cb]); have v3 := hx78.cell u3; have v4 := hx78.cell u4)
            | (go_at_call 34; refine (CN.out _ ao8 c8 hk8 (hch7.ext hx78) hn8 (fun p e => ⟨Nat.le_trans (Nat.le_trans hk7.size (Ext.size (by repeat (first | exact Ext.refl w7 | refine Ext.drew ?_ | refine Ext.drewN ?_ _ | refine Ext.alloc ?_ _)))) (hb8 p e).1, (hb8 p e).2⟩)).mono ?_; rintro e w9 ⟨rfl, hs9, hk9⟩))
        all_goals
          have B9 := hs9.blk
          have hs9' := hs9
          go_wp2_with (go_at_call 42; refine (CTN.out _).mono ?_; rintro e w10 ⟨rfl, ht10, hx10⟩; have z6 := (B9.ext hx10).cell 6; have z6f := (B9.ext hx10).free 6; have z6l := (B9.ext hx10).lt; simp [storeC] at z6)
          go_ret
          have hh := HH.out
          refine .ok M' m' a' (withH (withA x ao8 c8 x.a2 x.c2) w9.heap.size) (S ++ addrB ao8 ++ addrB x.a2 ++ [w9.heap.size]) (zipTb lr.bs (partsE 14 hd) ++ N) O rfl (hs9'.newHand NP.out hx10 (Nat.le_refl _) ht10) (NI.out.keep (fun _ _ => rfl) (fun _ _ => rfl) NI.out.nst.up rfl NI.out.bw (fun b => Nat.le_trans (NI.out.wr b) (by omega)) (by omega)) HR.out NL.out.1 NL.out.2.1 NL.out.2.2 ?_ ?_ HQ.out
          · exact (((hk8.mono (by simp [hh.cS.1])).trans (hk9.mono (by simp [hh.cS.1, hh.cS.2]))).trans (Kp.ofExt hx10 _)).trans (Kp.set _ hh.cS.2 _)
          · intro b hb
            simp only [List.mem_append, List.mem_singleton] at hb
            rcases hb with ((hb | hb) | hb) | hb
            · exact .inl hb
            · obtain ⟨p, hp, e⟩ := mem_addrB.1 hb
              exact .inr (by rw [← e]; exact Nat.le_trans (Nat.le_trans hk7.size (Ext.size (by repeat (first | exact Ext.refl w7 | refine Ext.drew ?_ | refine Ext.drewN ?_ _ | refine Ext.alloc ?_ _)))) (hb8 p hp).1)
            · obtain ⟨p, hp, e⟩ := mem_addrB.1 hb
              exact .inl (by rw [← e]; exact hh.aS p (.inr hp))
            · subst hb
              exact .inr (Nat.le_trans hk8.size hk9.size)
      · have CN : Hid (∀ W ao c, Kp w W [cb] → ChipAt W cb (claimS rdErase (layS M (names m) (partsE 14 (x.ns.map Nd.e))).M (layS M (names m) (partsE 14 (x.ns.map Nd.e))).L).M → NumsAt W ao (intsN (layS M (names m) (partsE 14 (x.ns.map Nd.e))).bs ++ m.nw) → Calls Tryd.prog 34 #[.pointer (some ⟨sb, 0, none⟩), .agg #[.int .i64 0, .int .i64 ((claimS rdErase (layS M (names m) (partsE 14 (x.ns.map Nd.e))).M (layS M (names m) (partsE 14 (x.ns.map Nd.e))).L).b : Int), .slice ao nl c, .slice x.a2 m.od.length x.c2]] W fun e w' => e = .returned (.iface 62 (.int .i64 9)) ∧ ChipAt w' cb (noteM (claimS rdErase (layS M (names m) (partsE 14 (x.ns.map Nd.e))).M (layS M (names m) (partsE 14 (x.ns.map Nd.e))).L).M a (manTxt (layHM m (claimS rdErase (layS M (names m) (partsE 14 (x.ns.map Nd.e))).M (layS M (names m) (partsE 14 (x.ns.map Nd.e))).L).b (layS M (names m) (partsE 14 (x.ns.map Nd.e))).bs))) ∧ Kp W w' [cb]) := fun W ao c h1 h2 h3 => by
          have := note_fell W S sb cb (claimS rdErase (layS M (names m) (partsE 14 (x.ns.map Nd.e))).M (layS M (names m) (partsE 14 (x.ns.map Nd.e))).L).M m a x (layHM m (claimS rdErase (layS M (names m) (partsE 14 (x.ns.map Nd.e))).M (layS M (names m) (partsE 14 (x.ns.map Nd.e))).L).b (layS M (names m) (partsE 14 (x.ns.map Nd.e))).bs) 0 ao x.a2 c x.c2 (HH.out.chg h1 h2) hI.nst.le hub2 hwr2 rfl (by show m.ep + 1 ≤ 100000; omega) (by omega) hNx.ok h3 (HH.out.od.kp h1 (fun p e => by simp [(HH.out.d2 p e).1])) ne
          rw [hnl2] at this
          exact this
        have NF : Hid (¬ M.left < 0 ∧ (noteM (claimS rdErase (layS M (names m) (partsE 14 (x.ns.map Nd.e))).M (layS M (names m) (partsE 14 (x.ns.map Nd.e))).L).M a (manTxt (layHM m (claimS rdErase (layS M (names m) (partsE 14 (x.ns.map Nd.e))).M (layS M (names m) (partsE 14 (x.ns.map Nd.e))).L).b (layS M (names m) (partsE 14 (x.ns.map Nd.e))).bs))).wk = M.wk ∧ FellOk (n + 3) (noteM (claimS rdErase (layS M (names m) (partsE 14 (x.ns.map Nd.e))).M (layS M (names m) (partsE 14 (x.ns.map Nd.e))).L).M a (manTxt (layHM m (claimS rdErase (layS M (names m) (partsE 14 (x.ns.map Nd.e))).M (layS M (names m) (partsE 14 (x.ns.map Nd.e))).L).b (layS M (names m) (partsE 14 (x.ns.map Nd.e))).bs))) (· = rowsE (x.ns.map Nd.e) N O)) := ⟨nl', nk, nf⟩
        clear hQ HFAR hA2far hNx hrow hcup hA2 hub2 hwr2 hep0 hepn ce0 hCO ne nl' nk nf hub1 hwr1 hLO he0 hnm hup hpl hnsl hN h hI hub hn hh1 hh2 hh3 hnl hnl2 hbl hb6
        generalize layHM m (claimS rdErase (layS M (names m) (partsE 14 (x.ns.map Nd.e))).M (layS M (names m) (partsE 14 (x.ns.map Nd.e))).L).b (layS M (names m) (partsE 14 (x.ns.map Nd.e))).bs = m' at *
        generalize noteM (claimS rdErase (layS M (names m) (partsE 14 (x.ns.map Nd.e))).M (layS M (names m) (partsE 14 (x.ns.map Nd.e))).L).M a (manTxt m') = M' at *
        generalize (claimS rdErase (layS M (names m) (partsE 14 (x.ns.map Nd.e))).M (layS M (names m) (partsE 14 (x.ns.map Nd.e))).L) = cr at *
        generalize (layS M (names m) (partsE 14 (x.ns.map Nd.e))) = lr at *
        generalize hhd : x.ns.map Nd.e = hd at *
        clear hhd
        go_enter Tryd.func27, Tryd.ntmps27
        go_wp2_with (go_at_call 31; refine (CU.out _ (Ext.refl w)).mono ?_; rintro e w2 ⟨rfl, hu2, hx2⟩; have hu2lt := hu2.lt)
        obtain ⟨s0, s6⟩ := HCE.out _ hx2
        go_region_held3 (fun W => W.cell? ⟨sb, 0, none⟩ = some (.pointer (some ⟨cb, 0, none⟩)) ∧ W.cell? ⟨sb, 6, none⟩ = some (.pointer (some ⟨x.hb, 0, none⟩)))
          (first | (go_keep; done) | exact ⟨(HCK.out _ hk5).1, (HCK.out _ hk5).2.2.2⟩ | exact HCE.out _ hw4)
          (first
            | (go_at_call 45; refine (CH.out _ (by repeat (first | exact hx2 | refine Ext.drew ?_ | refine Ext.drewN ?_ _ | refine Ext.alloc ?_ _))).mono ?_; rintro e w4 ⟨v4, rfl, hL4⟩; have hR4 := hL4.retE (W0 := w2) (by repeat (first | exact Ext.refl w2 | refine Ext.drew ?_ | refine Ext.drewN ?_ _ | refine Ext.alloc ?_ _)); obtain ⟨ao4, c4, hv4, hc4, he4, hb4, hx4⟩ := hR4; subst hv4; have hw4 : Ext w w4 := hx2.trans hx4; have hu4 := hu2.ext hx4)
            | (go_at_call 30; refine (CL.out _ _ ao4 c4 (HH.out.chip.ext hw4) hu4 hwub hc4 he4 (fun p e => HNB.out p.block hu2lt (Ext.refl w2) (hb4 p e).1)).mono ?_; rintro e w5 hd5; obtain ⟨ao5, c5, rfl, hn5, hb5', hch5, hus5, hkp5⟩ := HLR.out _ _ _ _ hd5; have hk5 := HK5.out _ _ (Kp.ofExt hw4 _) hkp5; have hb5 : ∀ p, ao5 = some p → w.heap.size ≤ p.block ∧ p.block < w5.heap.size := fun p e => ⟨Nat.le_trans hw4.size (hb5' p e).1, (hb5' p e).2⟩; have hu5 := hus5.lt))
        obtain ⟨t0, t3, t4, t6⟩ := HCK.out _ hk5
        go_wp2
        go_region_held3 (fun W => W.cell? ⟨sb, 0, none⟩ = some (.pointer (some ⟨cb, 0, none⟩)))
          (first | (go_keep; done) | exact (HCK.out _ hk7).1)
          (first
            | (go_at_call 38; refine (CC.out _ (hch5.ext (by repeat (first | exact Ext.refl w5 | refine Ext.drew ?_ | refine Ext.drewN ?_ _ | refine Ext.alloc ?_ _))) (hus5.ext (by repeat (first | exact Ext.refl w5 | refine Ext.drew ?_ | refine Ext.drewN ?_ _ | refine Ext.alloc ?_ _)))).mono ?_; rintro e w7 hd7; obtain ⟨rfl, hch7, hkp7⟩ := HCR.out _ _ _ hd7; have hk7 := HK5.out _ _ (hk5.trans (Kp.ofExt (by repeat (first | exact Ext.refl w5 | refine Ext.drew ?_ | refine Ext.drewN ?_ _ | refine Ext.alloc ?_ _)) _)) hkp7))
        have hn7 := HN7.out (Nat.lt_of_lt_of_le hu2lt hx4.size) hn5 hb5' (Kp.trans (Kp.ofExt (by repeat (first | exact Ext.refl w5 | refine Ext.drew ?_ | refine Ext.drewN ?_ _ | refine Ext.alloc ?_ _)) _) hkp7)
        obtain ⟨u0, u3, u4, u6⟩ := HCK.out _ hk7
        go_wp2
        go_region_held3 (fun W => W.cell? ⟨sb, 3, none⟩ = some (.slice x.a1 m.nw.length x.c1) ∧ W.cell? ⟨sb, 4, none⟩ = some (.slice x.a2 m.od.length x.c2))
          (first | (go_keep; done) | exact ⟨(HCK.out _ hk9).2.1, (HCK.out _ hk9).2.2.1⟩ | exact ⟨(HCK.out _ hk8).2.1, (HCK.out _ hk8).2.2.1⟩)
          (first
            | (go_at_call 57; refine (CCat.out _ _ _ ao5 c5 (hk7.trans (Kp.ofExt (by repeat (first | exact Ext.refl w7 | refine Ext.drew ?_ | refine Ext.drewN ?_ _ | refine Ext.alloc ?_ _)) _)) (hn7.ext (by repeat (first | exact Ext.refl w7 | refine Ext.drew ?_ | refine Ext.drewN ?_ _ | refine Ext.alloc ?_ _))) (by first | exact Blk.new _ _ _ | exact Blk.drewN (Blk.new _ _ _) _ | exact Blk.drew (Blk.new _ _ _))).mono ?_; rintro e w8 ⟨ao8, c8, rfl, hn8, hx8, hb8⟩; have hx78 : Ext w7 w8 := Ext.trans (by repeat (first | exact Ext.refl w7 | refine Ext.drew ?_ | refine Ext.drewN ?_ _ | refine Ext.alloc ?_ _)) hx8; have hk8 := hk7.trans (Kp.ofExt hx78 [cb]))
            | (go_at_call 34; refine (CN.out _ ao8 c8 hk8 (hch7.ext hx78) hn8).mono ?_; rintro e w9 ⟨rfl, hc9, hkk9⟩; have hk9 := hk8.trans hkk9))
        go_wp2
        go_ret
        have hh := HH.out
        exact .fell _ rfl (by have := NF.out.1; omega) hc9 NF.out.2.1 NF.out.2.2 (hk9.mono (by simp [hh.cS.1]))
    · have HCR : Hid (∀ W W' e, ClaimD (claimS rdErase (layS M (names m) (partsE 14 (x.ns.map Nd.e))).M (layS M (names m) (partsE 14 (x.ns.map Nd.e))).L) W W' cb (w.heap.size + 1) e → e = .returned (.tuple #[.int .i64 ((claimS rdErase (layS M (names m) (partsE 14 (x.ns.map Nd.e))).M (layS M (names m) (partsE 14 (x.ns.map Nd.e))).L).b : Int), .iface 62 (.int .i64 9)]) ∧ ChipAt W' cb (claimS rdErase (layS M (names m) (partsE 14 (x.ns.map Nd.e))).M (layS M (names m) (partsE 14 (x.ns.map Nd.e))).L).M ∧ Kp W W' [cb, w.heap.size + 1]) := fun W W' e hd => ⟨by have := hd.ret; rw [ce9] at this; exact this, hd.chip, hd.kept⟩
      have NF : Hid (¬ M.left < 0 ∧ (claimS rdErase (layS M (names m) (partsE 14 (x.ns.map Nd.e))).M (layS M (names m) (partsE 14 (x.ns.map Nd.e))).L).M.wk = M.wk ∧ FellOk (n + 3) (claimS rdErase (layS M (names m) (partsE 14 (x.ns.map Nd.e))).M (layS M (names m) (partsE 14 (x.ns.map Nd.e))).L).M (· = rowsE (x.ns.map Nd.e) N O)) := ⟨cl9, cw9, cf9⟩
      clear cl9 cw9 cf9 ce9 hub1 hwr1 hLO he0 hnm hup hpl hnsl hN h hI hub hn hh1 hh2 hh3
      generalize (claimS rdErase (layS M (names m) (partsE 14 (x.ns.map Nd.e))).M (layS M (names m) (partsE 14 (x.ns.map Nd.e))).L) = cr at *
      generalize (layS M (names m) (partsE 14 (x.ns.map Nd.e))) = lr at *
      generalize x.ns.map Nd.e = hd at *
      go_enter Tryd.func27, Tryd.ntmps27
      go_wp2_with (go_at_call 31; refine (CU.out _ (Ext.refl w)).mono ?_; rintro e w2 ⟨rfl, hu2, hx2⟩; have hu2lt := hu2.lt)
      obtain ⟨s0, s6⟩ := HCE.out _ hx2
      go_region_held3 (fun W => W.cell? ⟨sb, 0, none⟩ = some (.pointer (some ⟨cb, 0, none⟩)) ∧ W.cell? ⟨sb, 6, none⟩ = some (.pointer (some ⟨x.hb, 0, none⟩)))
        (first | (go_keep; done) | exact ⟨(HCK.out _ hk5).1, (HCK.out _ hk5).2.2.2⟩ | exact HCE.out _ hw4)
        (first
          | (go_at_call 45; refine (CH.out _ (by repeat (first | exact hx2 | refine Ext.drew ?_ | refine Ext.drewN ?_ _ | refine Ext.alloc ?_ _))).mono ?_; rintro e w4 ⟨v4, rfl, hL4⟩; have hR4 := hL4.retE (W0 := w2) (by repeat (first | exact Ext.refl w2 | refine Ext.drew ?_ | refine Ext.drewN ?_ _ | refine Ext.alloc ?_ _)); obtain ⟨ao4, c4, hv4, hc4, he4, hb4, hx4⟩ := hR4; subst hv4; have hw4 : Ext w w4 := hx2.trans hx4; have hu4 := hu2.ext hx4)
          | (go_at_call 30; refine (CL.out _ _ ao4 c4 (HH.out.chip.ext hw4) hu4 hwub hc4 he4 (fun p e => HNB.out p.block hu2lt (Ext.refl w2) (hb4 p e).1)).mono ?_; rintro e w5 hd5; obtain ⟨ao5, c5, rfl, hn5, hb5', hch5, hus5, hkp5⟩ := HLR.out _ _ _ _ hd5; have hk5 := HK5.out _ _ (Kp.ofExt hw4 _) hkp5; have hb5 : ∀ p, ao5 = some p → w.heap.size ≤ p.block ∧ p.block < w5.heap.size := fun p e => ⟨Nat.le_trans hw4.size (hb5' p e).1, (hb5' p e).2⟩; have hu5 := hus5.lt))
      obtain ⟨t0, t3, t4, t6⟩ := HCK.out _ hk5
      go_wp2
      go_region_held3 (fun W => W.cell? ⟨sb, 0, none⟩ = some (.pointer (some ⟨cb, 0, none⟩)))
        (first | (go_keep; done) | exact (HCK.out _ hk7).1)
        (first
          | (go_at_call 38; refine (CC.out _ (hch5.ext (by repeat (first | exact Ext.refl w5 | refine Ext.drew ?_ | refine Ext.drewN ?_ _ | refine Ext.alloc ?_ _))) (hus5.ext (by repeat (first | exact Ext.refl w5 | refine Ext.drew ?_ | refine Ext.drewN ?_ _ | refine Ext.alloc ?_ _)))).mono ?_; rintro e w7 hd7; obtain ⟨rfl, hch7, hkp7⟩ := HCR.out _ _ _ hd7; have hk7 := HK5.out _ _ (hk5.trans (Kp.ofExt (by repeat (first | exact Ext.refl w5 | refine Ext.drew ?_ | refine Ext.drewN ?_ _ | refine Ext.alloc ?_ _)) _)) hkp7))
      go_wp2
      go_ret
      have hh := HH.out
      exact .fell _ rfl (by have := NF.out.1; omega) hch7 NF.out.2.1 NF.out.2.2 (hk7.mono (by simp [hh.cS.1]))
  · have HLR : Hid (∀ W W' ub e, LayD (layS M (names m) (partsE 14 (x.ns.map Nd.e))) W W' cb ub e → ∃ ao c, e = .returned (.tuple #[.slice ao (layS M (names m) (partsE 14 (x.ns.map Nd.e))).bs.length c, .iface 62 (.int .i64 9)]) ∧ ChipAt W' cb (layS M (names m) (partsE 14 (x.ns.map Nd.e))).M ∧ Kp W W' [cb, ub]) := fun W W' ub e hd => by
      obtain ⟨⟨ao, c, h1, _, _⟩, h4, _, h6⟩ := hd
      rw [he9] at h1
      exact ⟨ao, c, h1, h4, h6⟩
    have NF : Hid (¬ M.left < 0 ∧ (layS M (names m) (partsE 14 (x.ns.map Nd.e))).M.wk = M.wk ∧ FellOk (n + 3) (layS M (names m) (partsE 14 (x.ns.map Nd.e))).M (· = rowsE (x.ns.map Nd.e) N O)) := ⟨hl9, hw9, hf9⟩
    clear hl9 hw9 hf9 he9 hnm hup hpl hnsl hN h hI hub hn hh1 hh2 hh3
    generalize (layS M (names m) (partsE 14 (x.ns.map Nd.e))) = lr at *
    generalize x.ns.map Nd.e = hd at *
    go_enter Tryd.func27, Tryd.ntmps27
    go_wp2_with (go_at_call 31; refine (CU.out _ (Ext.refl w)).mono ?_; rintro e w2 ⟨rfl, hu2, hx2⟩; have hu2lt := hu2.lt)
    obtain ⟨s0, s6⟩ := HCE.out _ hx2
    go_region_held3 (fun W => W.cell? ⟨sb, 0, none⟩ = some (.pointer (some ⟨cb, 0, none⟩)) ∧ W.cell? ⟨sb, 6, none⟩ = some (.pointer (some ⟨x.hb, 0, none⟩)))
      (first | (go_keep; done) | exact ⟨(HCK.out _ hk5).1, (HCK.out _ hk5).2.2.2⟩ | exact HCE.out _ hw4)
      (first
        | (go_at_call 45; refine (CH.out _ (by repeat (first | exact hx2 | refine Ext.drew ?_ | refine Ext.drewN ?_ _ | refine Ext.alloc ?_ _))).mono ?_; rintro e w4 ⟨v4, rfl, hL4⟩; have hR4 := hL4.retE (W0 := w2) (by repeat (first | exact Ext.refl w2 | refine Ext.drew ?_ | refine Ext.drewN ?_ _ | refine Ext.alloc ?_ _)); obtain ⟨ao4, c4, hv4, hc4, he4, hb4, hx4⟩ := hR4; subst hv4; have hw4 : Ext w w4 := hx2.trans hx4; have hu4 := hu2.ext hx4)
        | (go_at_call 30; refine (CL.out _ _ ao4 c4 (HH.out.chip.ext hw4) hu4 hwub hc4 he4 (fun p e => HNB.out p.block hu2lt (Ext.refl w2) (hb4 p e).1)).mono ?_; rintro e w5 hd5; obtain ⟨ao5, c5, rfl, hch5, hkp5⟩ := HLR.out _ _ _ _ hd5; have hk5 := HK5.out _ _ (Kp.ofExt hw4 _) hkp5))
    go_wp2
    go_ret
    have hh := HH.out
    exact .fell _ rfl (by have := NF.out.1; omega) hch5 NF.out.2.1 NF.out.2.2 (hk5.mono (by simp [hh.cS.1]))
end Go.Proofs.YtkibgflbidkalaaDoor

/- A store in memory: Flush. -/
namespace Go.Proofs.YtkibgflbidkalaaDoor
open Go.RowKit Go.WideShapes

/-- One thing is done behind another. -/
theorem OpEnd.after {n : Nat} {w w1 w2 : World} {S S1 : List Nat} {sb cb : Nat} {M M1 : CM} {P Pf P' Pf' : List Ent → Prop} {Q Q' : CM → Man → List Ent → List Tb → Prop} {e : Ending}
    (hl : M.left < 0 → M1.left = M.left) (hq : ∀ k, M.left ≤ k → 0 ≤ k → M1.left ≤ k) (hw : M1.wk = M.wk) (hk : Kp w w1 S) (hS : ∀ b ∈ S1, b ∈ S ∨ w.heap.size ≤ b)
    (h : OpEnd n w1 w2 S1 sb cb M1 P Pf Q e) (hP : ∀ r, P r → P' r) (hPf : ∀ r, Pf r → Pf' r) (hQ : ∀ M' m' hand' N', Q M' m' hand' N' → Q' M' m' hand' N') : OpEnd n w w2 S sb cb M P' Pf' Q' e := by
  cases h with
  | ok M' m' a' x' S' N' O' he hs hi hr hl' hq' hw' hk' hS' hQ' =>
    refine .ok M' m' a' x' S' N' O' he hs hi (hP _ hr) (fun h0 => ?_) (fun k k1 k2 => hq' k (hq k k1 k2) k2) (hw'.trans hw) (hk.new hk' hS) (fun b hb => ?_) (hQ _ _ _ _ hQ')
    · rw [hl' (by rw [hl h0]; exact h0), hl h0]
    · rcases hS' b hb with h1 | h1
      · exact hS b h1
      · exact .inr (Nat.le_trans hk.size h1)
  | fell M' he hl' hc hw' hf hk' =>
    refine .fell M' he (fun h0 => hl' (by rw [hl h0]; exact h0)) hc (hw'.trans hw) (fun how => ?_) (hk.new hk' hS)
    obtain ⟨m, a, hand, N, O, h1, h2, h3⟩ := hf how
    exact ⟨m, a, hand, N, O, h1, hPf _ h2, h3⟩
/-- What compactMany says besides: few new tables are left; there is no other log, no other hand. -/
def ManyQ (M : CM) (m : Man) (hand : List Ent) (M' : CM) (m' : Man) (hand' : List Ent) (N' : List Tb) : Prop := N'.length ≤ 2 ∧ hand' = hand ∧ m'.lg = m.lg ∧ (∀ g : Nat, m.lg = (g : Int) → M'.pg g = M.pg g) ∧ (∀ b : Nat, (b : Int) ∈ m'.nw → (b : Int) ∈ m.nw) ∧ ∀ b, M.bd b = true → M'.bd b = true
/-- What is answered: nothing is wrong, or the machine fell. -/
theorem OpEnd.two {n : Nat} {w w' : World} {S : List Nat} {sb cb : Nat} {M : CM} {P Pf : List Ent → Prop} {Q : CM → Man → List Ent → List Tb → Prop} {e : Ending} (h : OpEnd n w w' S sb cb M P Pf Q e) :
    (e = .returned .nilIface ∧ Hid (OpEnd n w w' S sb cb M P Pf Q (.returned .nilIface))) ∨ (e = .returned (.iface 62 (.int .i64 9)) ∧ Hid (OpEnd n w w' S sb cb M P Pf Q (.returned (.iface 62 (.int .i64 9))))) := by
  cases h with
  | ok M' m' a' x' S' N' O' he hs hi hr hl hq hw hk hS hQ => exact .inl ⟨he, .ok M' m' a' x' S' N' O' rfl hs hi hr hl hq hw hk hS hQ⟩
  | fell M' he hl hc hw hf hk => exact .inr ⟨he, .fell M' rfl hl hc hw hf hk⟩
theorem OpEnd.down {n n' : Nat} {w w' : World} {S : List Nat} {sb cb : Nat} {M : CM} {P P' Pf Pf' : List Ent → Prop} {Q Q' : CM → Man → List Ent → List Tb → Prop} (h : OpEnd n w w' S sb cb M P Pf Q (.returned (.iface 62 (.int .i64 9)))) (hn : n ≤ n') (hP : ∀ r, Pf r → Pf' r) : OpEnd n' w w' S sb cb M P' Pf' Q' (.returned (.iface 62 (.int .i64 9))) := by
  cases h with
  | ok M' m' a' x' S' N' O' he => cases he
  | fell M' he hl hc hw hf hk =>
    refine .fell M' rfl hl hc hw (fun how => ?_) hk
    obtain ⟨m, a, hand, N, O, h1, h2, h3⟩ := hf how
    exact ⟨m, a, hand, N, O, h1.keep (fun _ _ => rfl) (fun _ _ => rfl) h1.nst.up rfl h1.bw (fun b => Nat.le_trans (h1.wr b) hn) hn, hP _ h2, h3⟩
set_option maxRecDepth 20000 in
set_option maxHeartbeats 1000000 in
theorem compactMany_any (n : Nat) (w : World) (S : List Nat) (sb cb : Nat) (M : CM) (m : Man) (a : Nat) (x : SMem) (N O : List Tb) (h : StoAt w S sb cb M m a x) (hI : Inv n M m a (x.ns.map Nd.e) N O) (hub : M.left ≤ 9223372036854775807) (hn : n ≤ 90000) :
    Calls Tryd.prog 26 #[.pointer (some ⟨sb, 0, none⟩)] w fun e w' => OpEnd (n + 3) w w' S sb cb M (· = rowsE (x.ns.map Nd.e) N O) (· = rowsE (x.ns.map Nd.e) N O) (ManyQ M m (x.ns.map Nd.e)) e := by
  have k3 := h.blk.cell 3
  simp [storeC] at k3
  have hlen : m.nw.length = N.length := by rw [hI.nw]; simp
  by_cases h3 : N.length < 3
  · have HR : Hid (OpEnd (n + 3) w w S sb cb M (· = rowsE (x.ns.map Nd.e) N O) (· = rowsE (x.ns.map Nd.e) N O) (ManyQ M m (x.ns.map Nd.e)) (.returned .nilIface)) :=
      .ok M m a x S N O rfl h (hI.keep (fun _ _ => rfl) (fun _ _ => rfl) hI.nst.up rfl hI.bw (fun b => Nat.le_trans (hI.wr b) (by omega)) (by omega)) rfl (fun _ => rfl) (fun _ h _ => h) rfl (Kp.refl _ _) (fun b hb => .inl hb) ⟨by omega, rfl, rfl, fun _ _ => rfl, fun _ h => h, fun _ h => h⟩
    have hl3 : (m.nw.length : Int) < 3 := by omega
    clear h hI hlen h3
    go_enter Tryd.func26, Tryd.ntmps26
    go_wp2
    go_ret
    exact HR.out
  · have CC : Hid (Calls Tryd.prog 11 #[.pointer (some ⟨sb, 0, none⟩)] w fun e w' => OpEnd (n + 3) w w' S sb cb M (· = rowsE (x.ns.map Nd.e) N O) (· = rowsE (x.ns.map Nd.e) N O) (ManyQ M m (x.ns.map Nd.e)) e) := by
      refine (compact_any n w S sb cb M m a x N O h hI hub hn).mono ?_
      intro e w' hO
      cases hO with
      | ok M' m' a' x' S' N' O' he hs hi hr hl hq hw hk hS hQ =>
        obtain ⟨q1, q2, q3, q4, q5⟩ := hQ
        refine .ok M' m' a' x' S' N' O' he hs hi hr hl hq hw hk hS ⟨by rw [q1]; simp, q2, q3, q4, fun b hb => ?_, q5⟩
        rw [hi.nw, q1] at hb
        simp at hb
      | fell M' he hl hc hw hf hk => exact .fell M' he hl hc hw hf hk
    have hl3 : ¬ (m.nw.length : Int) < 3 := by omega
    clear h hI hlen h3
    go_enter Tryd.func26, Tryd.ntmps26
    go_wp2_with (go_at_call 11; refine (CC.out.mono fun _ _ h => h.two).mono ?_; rintro e w1 (⟨rfl, HO1⟩ | ⟨rfl, HO1⟩))
    all_goals
      go_ret
      exact HO1.out
/-- What Flush says besides. -/
def FlushQ (M : CM) (m : Man) (M' : CM) (m' : Man) (hand' : List Ent) (N' : List Tb) : Prop := N'.length ≤ 2 ∧ hand' = [] ∧ (∃ g : Nat, m'.lg = (g : Int) ∧ M'.pg g = [] ∧ M.bd g = false ∧ M.wk g = false) ∧ ∀ b : Nat, (b : Int) ∈ m'.nw → (b : Int) ∈ m.nw ∨ M.bd b = false
/-- Behind layHand. -/
def MidQ (M : CM) (m : Man) (M' : CM) (m' : Man) (hand' : List Ent) (_ : List Tb) : Prop := hand' = [] ∧ (∃ g : Nat, m'.lg = (g : Int) ∧ M'.pg g = [] ∧ M.bd g = false ∧ M.wk g = false) ∧ ∀ b : Nat, (b : Int) ∈ m'.nw → (b : Int) ∈ m.nw ∨ M.bd b = false
set_option maxRecDepth 20000 in
set_option maxHeartbeats 2000000 in
theorem flush_any (n : Nat) (w : World) (S : List Nat) (sb cb : Nat) (M : CM) (m : Man) (a : Nat) (x : SMem) (N O : List Tb) (h : StoAt w S sb cb M m a x) (hI : Inv n M m a (x.ns.map Nd.e) N O) (hub : M.left ≤ 9223372036854775807) (hn : n ≤ 80000) :
    Calls Tryd.prog 10 #[.pointer (some ⟨sb, 0, none⟩)] w fun e w' => OpEnd (n + 9) w w' S sb cb M (· = rowsE (x.ns.map Nd.e) N O) (· = rowsE (x.ns.map Nd.e) N O) (FlushQ M m) e := by
  have C1 := (compactMany_any n w S sb cb M m a x N O h hI hub (by omega)).mono fun _ _ h => h.two
  generalize rowsE (x.ns.map Nd.e) N O = rw0 at *
  have C2 : Hid (∀ w1, OpEnd (n + 3) w w1 S sb cb M (· = rw0) (· = rw0) (ManyQ M m (x.ns.map Nd.e)) (.returned .nilIface) → Calls Tryd.prog 27 #[.pointer (some ⟨sb, 0, none⟩)] w1 fun e w' => OpEnd (n + 6) w w' S sb cb M (· = rw0) (· = rw0) (MidQ M m) e) := fun w1 hO => by
    cases hO with
    | fell M' he => cases he
    | ok M1 m1 a1 x1 S1 N1 O1 he hs1 hi1 hr1 hl1 hq1 hw1 hk1 hS1 hQ1 =>
      have := layHand_any (n + 3) w1 S1 sb cb M1 m1 a1 x1 N1 O1 hs1 hi1 (hq1 _ hub (by decide)) (by omega) hQ1.1
      rw [hr1] at this
      refine this.mono fun e w' hO => hO.after hl1 hq1 hw1 hk1 hS1 (fun _ h => h) (fun _ h => h) (fun M' m' hand' N' hq => ?_)
      obtain ⟨_, _, _, _, p5, p6⟩ := hQ1
      obtain ⟨q1, ⟨g, q2, q3, q4, q6⟩, q5, _⟩ := hq
      have hbd : ∀ b, M1.bd b = false → M.bd b = false := fun b hb => by
        cases hh : M.bd b with
        | false => rfl
        | true => have := p6 b hh; rw [hb] at this; cases this
      refine ⟨q1, ⟨g, q2, q3, hbd g q4, by rw [← hw1]; exact q6⟩, fun b hb => ?_⟩
      rcases q5 b hb with h' | h'
      · exact .inl (p5 b h')
      · exact .inr (hbd b h')
  have C3 : Hid (∀ w1, OpEnd (n + 6) w w1 S sb cb M (· = rw0) (· = rw0) (MidQ M m) (.returned .nilIface) → Calls Tryd.prog 26 #[.pointer (some ⟨sb, 0, none⟩)] w1 fun e w' => OpEnd (n + 9) w w' S sb cb M (· = rw0) (· = rw0) (FlushQ M m) e) := fun w1 hO => by
    cases hO with
    | fell M' he => cases he
    | ok M1 m1 a1 x1 S1 N1 O1 he hs1 hi1 hr1 hl1 hq1 hw1 hk1 hS1 hQ1 =>
      have := compactMany_any (n + 6) w1 S1 sb cb M1 m1 a1 x1 N1 O1 hs1 hi1 (hq1 _ hub (by decide)) (by omega)
      rw [hr1] at this
      refine this.mono fun e w' hO => hO.after hl1 hq1 hw1 hk1 hS1 (fun _ h => h) (fun _ h => h) (fun M' m' hand' N' hq => ?_)
      obtain ⟨q1, ⟨g, q2, q3, q4, q6⟩, q5⟩ := hQ1
      obtain ⟨r1, r2, r3, r4, r5, r6⟩ := hq
      exact ⟨r1, by rw [r2, q1], ⟨g, by rw [r3, q2], by rw [r4 g q2]; exact q3, q4, q6⟩, fun b hb => q5 b (r5 b hb)⟩
  have HC1 : Hid (Calls Tryd.prog 26 #[.pointer (some ⟨sb, 0, none⟩)] w fun e w' => (e = .returned .nilIface ∧ Hid (OpEnd (n + 3) w w' S sb cb M (· = rw0) (· = rw0) (ManyQ M m (x.ns.map Nd.e)) (.returned .nilIface))) ∨ (e = .returned (.iface 62 (.int .i64 9)) ∧ Hid (OpEnd (n + 3) w w' S sb cb M (· = rw0) (· = rw0) (ManyQ M m (x.ns.map Nd.e)) (.returned (.iface 62 (.int .i64 9)))))) := C1
  clear h hI hub C1
  have t1 : True := trivial
  go_enter Tryd.func10, Tryd.ntmps10
  go_wp2_with (first
    | (go_at_call 26; have _t := t1; clear t1; refine HC1.out.mono ?_; rintro e w1 (⟨rfl, HO1⟩ | ⟨rfl, HO1⟩))
    | (go_at_call 27; refine ((C2.out _ HO1.out).mono fun _ _ h => h.two).mono ?_; rintro e w2 (⟨rfl, HO2⟩ | ⟨rfl, HO2⟩))
    | (go_at_call 26; refine ((C3.out _ HO2.out).mono fun _ _ h => h.two).mono ?_; rintro e w3 (⟨rfl, HO3⟩ | ⟨rfl, HO3⟩)))
  all_goals
    go_ret
    first
      | exact HO3.out
      | exact HO2.out.down (by omega) (fun _ h => h)
      | exact HO1.out.down (by omega) (fun _ h => h)
end Go.Proofs.YtkibgflbidkalaaDoor
