/- StoS. -/
import Derived.Test.YtjeinblcpejpnabGreatDoorStoQJ

/- A store in memory: Compact. -/
namespace Go.Proofs.YtjeinblcpejpnabGreatDoor
open Go.RowKit Go.WideShapes

/-- Something has been done to a store: all is well, or the machine fell. -/
inductive OpEnd (n : Nat) (w w' : World) (S : List Nat) (sb cb : Nat) (M : CM) (P : List Ent → Prop) (Pf : List Ent → Prop) (Q : CM → Man → List Ent → List Tb → Prop) (e : Ending) : Prop
  | ok (M' : CM) (m' : Man) (a' : Nat) (x' : SMem) (S' : List Nat) (N' O' : List Tb) (he : e = .returned .nilIface) (hs : StoAt w' S' sb cb M' m' a' x') (hi : Inv n M' m' a' (x'.ns.map Nd.e) N' O') (hr : P (rowsE (x'.ns.map Nd.e) N' O')) (hl : M.left < 0 → M'.left = M.left) (hq : ∀ k, M.left ≤ k → 0 ≤ k → M'.left ≤ k) (hw : M'.wk = M.wk) (hk : Kp w w' S) (hS : ∀ b ∈ S', b ∈ S ∨ w.heap.size ≤ b) (hQ : Q M' m' (x'.ns.map Nd.e) N')
  | fell (M' : CM) (he : e = .returned (.iface 88 (.int .i64 9))) (hl : ¬ M.left < 0) (hc : ChipAt w' cb M') (hw : M'.wk = M.wk) (hf : FellOk n M' Pf) (hk : Kp w w' S)
theorem OpEnd.le {n n' : Nat} {w w' : World} {S : List Nat} {sb cb : Nat} {M : CM} {P Pf : List Ent → Prop} {Q : CM → Man → List Ent → List Tb → Prop} {e : Ending} (h : OpEnd n w w' S sb cb M P Pf Q e) (hn : n ≤ n') : OpEnd n' w w' S sb cb M P Pf Q e := by
  cases h with
  | ok M' m' a' x' S' N' O' he hs hi hr hl hq hw hk hS hQ => exact .ok M' m' a' x' S' N' O' he hs (hi.keep (fun _ _ => rfl) (fun _ _ => rfl) hi.nst.up rfl hi.bw (fun b => Nat.le_trans (hi.wr b) hn) hn) hr hl hq hw hk hS hQ
  | fell M' he hl hc hw hf hk =>
    refine .fell M' he hl hc hw (fun how => ?_) hk
    obtain ⟨m, a, hand, N, O, h1, h2⟩ := hf how
    exact ⟨m, a, hand, N, O, h1.keep (fun _ _ => rfl) (fun _ _ => rfl) h1.nst.up rfl h1.bw (fun b => Nat.le_trans (h1.wr b) hn) hn, h2⟩
/-- What Compact says of the store besides. -/
def CompQ (M : CM) (m : Man) (hand : List Ent) (M' : CM) (m' : Man) (hand' : List Ent) (N' : List Tb) : Prop := N' = [] ∧ hand' = hand ∧ m'.lg = m.lg ∧ (∀ g : Nat, m.lg = (g : Int) → M'.pg g = M.pg g) ∧ ∀ b, M.bd b = true → M'.bd b = true
set_option maxRecDepth 20000 in
set_option maxHeartbeats 8000000 in
theorem compact_some (n : Nat) (w : World) (S : List Nat) (sb cb : Nat) (M : CM) (m : Man) (a : Nat) (x : SMem) (N O : List Tb) (h : StoAt w S sb cb M m a x) (hI : Inv n M m a (x.ns.map Nd.e) N O) (hub : M.left ≤ 9223372036854775807) (hn : n ≤ 90000) (hN : N ≠ []) :
    Calls Tryz.prog 20 #[.pointer (some ⟨sb, 0, none⟩)] w fun e w' => OpEnd (n + 3) w w' S sb cb M (· = rowsE (x.ns.map Nd.e) N O) (· = rowsE (x.ns.map Nd.e) N O) (CompQ M m (x.ns.map Nd.e)) e := by
  have hup := hI.nst.up
  have hfew := hI.few
  have hfew' := hI.few'
  have hR := tabRows_ris N O
  have hval := tabRows_ok hI
  have hL : ((layS M (names m) (partsE 14 (tabRows N O))).e = 0 ∧ LaidOk M (names m) (partsE 14 (tabRows N O)) (layS M (names m) (partsE 14 (tabRows N O))).M (layS M (names m) (partsE 14 (tabRows N O))).L (layS M (names m) (partsE 14 (tabRows N O))).bs) ∨ ((layS M (names m) (partsE 14 (tabRows N O))).e = 9 ∧ ¬ M.left < 0 ∧ (layS M (names m) (partsE 14 (tabRows N O))).M.wk = M.wk ∧ FellOk (n + 3) (layS M (names m) (partsE 14 (tabRows N O))).M (· = rowsE (x.ns.map Nd.e) N O)) := lay_end (ps := partsE 14 (tabRows N O)) hI (Adv.refl _ _) hup (fun k hk => by have := good_few hI; omega) (partsE_ok hval hR) (by rw [partsE_len]; unfold partsN; have := hI.trows; omega)
  have k0 := h.blk.cell 0
  have k1 := h.blk.cell 1
  have k2 := h.blk.cell 2
  have k3 := h.blk.cell 3
  have k4 := h.blk.cell 4
  simp [storeC] at k0 k1 k2 k3 k4
  have HD : Hid (Calls Tryz.prog 48 #[.pointer (some ⟨cb, 0, none⟩)] w fun e w' => e = .returned (.bool false) ∧ w = w') := by
    have := down_any cb M w h.chip
    rw [show downB M = false by unfold downB; rw [hup]; rfl] at this
    exact this.mono fun _ _ h => ⟨h.1, h.2.symm⟩
  have CT : Hid (Calls Tryz.prog 49 #[.pointer (some ⟨sb, 0, none⟩)] w fun e w' => TabsE w w' e (N ++ O)) := tables_any w S sb cb M m a x N O h hup hI.nw hI.od hI.tn hI.told (by omega)
  have hnl : ¬ m.nw.length = 0 := by
    rw [hI.nw]; simp; exact hN
  have hnI : ((m.nw.length : Int) == 0) = false := by rw [beq_eq_false_iff_ne]; omega
  have hnm := (man_names hI.ok).1
  have CU : Hid (∀ W, Ext w W → Calls Tryz.prog 51 #[.agg #[.int .i64 m.ep, .int .i64 m.lg, .slice x.a1 m.nw.length x.c1, .slice x.a2 m.od.length x.c2]] W fun e w' => e = .returned (.pointer (some ⟨W.heap.size + 1, 0, none⟩)) ∧ Blk w' (W.heap.size + 1) (usedC (names m)) 146 ∧ Ext W w') := fun W hx => inUse_any m x.a1 x.a2 x.c1 x.c2 W (by rw [hI.nw, hI.od]; simp; omega) (fun y hy => by have := hnm y hy; omega) (h.nw.ext hx) (h.od.ext hx)
  have CA : Hid (∀ (W : World) (ls : List LE) ao c, ls.length ≤ c → CellsL W ao ls → EntsOf W ls → ls.map LE.es = tabsE (N ++ O) → Calls Tryz.prog 53 #[.slice ao ls.length c] W fun e w' => RetL W w' e (allE (tabsE N ++ tabsE O))) := fun W ls ao c h1 h2 h3 h4 => by
    have hll : ls.length ≤ 8 := by have := congrArg List.length h4; simp [tabsE] at this; omega
    have hF : Few ls := by
      have key : ∀ l ∈ ls, Ris l.es ∧ l.es.length ≤ 40 := fun l hl => by
        have hm : l.es ∈ tabsE (N ++ O) := by rw [← h4]; exact List.mem_map_of_mem hl
        obtain ⟨y, hy, e⟩ := List.mem_map.1 hm
        rw [← e]
        have ht : TabAt M y.b y.es := by
          rcases List.mem_append.1 hy with h' | h'
          · exact hI.tn y h'
          · exact hI.told y h'
        exact ⟨tabF_ris ht.ok, by have := (tabF_zero ht.ok).2.1; omega⟩
      exact ⟨fun l hl => (key l hl).1, fun l hl => (key l hl).2⟩
    have hLA : ListsAt W ao ls := fun hne => by
      obtain ⟨b, off, e, hc⟩ := h2 hne
      exact ⟨b, off, e, fun i l hl => ⟨hc i l hl, (h3 l (List.mem_of_getElem? hl)).1, (h3 l (List.mem_of_getElem? hl)).2.1⟩⟩
    have := all_any 20 ao c ls W (by omega) (by omega) h1 hF hLA
    rw [show alls ls = allE (tabsE N ++ tabsE O) by unfold alls; rw [h4]; simp [tabsE]] at this
    exact this
  have HAL : Hid ((allE (tabsE N ++ tabsE O)).length ≤ 1000) := by
    have key : ∀ ls : List (List Ent), (∀ l ∈ ls, l.length ≤ 14) → (allE ls).length ≤ 14 * ls.length := by
      intro ls
      induction ls with
      | nil => intro _; simp [allE]
      | cons l r ih =>
        intro hl
        have h1 := ih (fun y hy => hl y (List.mem_cons_of_mem _ hy))
        have h2 := hl l (by simp)
        have h3 := puts_len (allE r) l
        show (putsE (allE r) l).length ≤ _
        simp only [List.length_cons]; omega
    have := key (tabsE N ++ tabsE O) (fun l hl => by
      rcases List.mem_append.1 hl with hl | hl
      · obtain ⟨y, hy, rfl⟩ := List.mem_map.1 hl
        exact (tabF_zero (hI.tn y hy).ok).2.1
      · obtain ⟨y, hy, rfl⟩ := List.mem_map.1 hl
        exact (tabF_zero (hI.told y hy).ok).2.1)
    rw [Hid]
    simp [tabsE] at this; simp [tabsE]; omega
  have CV : Hid (∀ (W : World) ao c, EntsAt W ao (allE (tabsE N ++ tabsE O)) → Calls Tryz.prog 52 #[.slice ao (allE (tabsE N ++ tabsE O)).length c] W fun e w' => ∃ v, e = .returned v ∧ Lst W w' v (tabRows N O)) := fun W ao c he => live_any ao c _ W HAL.out he
  have CL : Hid (∀ (W : World) ub ao c, ChipAt W cb M → Blk W ub (usedC (names m)) 146 → ¬ ub = cb → (tabRows N O).length ≤ c → EntsAt W ao (tabRows N O) → (∀ a, ao = some a → ¬ a.block = cb ∧ ¬ a.block = ub) → Calls Tryz.prog 50 #[.pointer (some ⟨cb, 0, none⟩), .pointer (some ⟨ub, 0, none⟩), .slice ao (tabRows N O).length c] W fun e w' => LayD (layS M (names m) (partsE 14 (tabRows N O))) W w' cb ub e) := fun W ub ao c h1 h2 h3 h4 h5 h6 =>
    lay_all cb ub ao c (tabRows N O) M (names m) W h1 h2 h3 hub hup hI.bw (fun b => by have := hI.wr b; omega) (by have := hI.trows; omega) h4 h5 h6 (partsE_ok hval hR)
  have HKK : Hid (w.cell? ⟨sb, 0, none⟩ = some (.pointer (some ⟨cb, 0, none⟩)) ∧ w.cell? ⟨sb, 1, none⟩ = some (.int .i64 m.ep) ∧ w.cell? ⟨sb, 2, none⟩ = some (.int .i64 m.lg) ∧ w.cell? ⟨sb, 3, none⟩ = some (.slice x.a1 m.nw.length x.c1) ∧ w.cell? ⟨sb, 4, none⟩ = some (.slice x.a2 m.od.length x.c2)) := ⟨k0, k1, k2, k3, k4⟩
  have HH : Hid (StoAt w S sb cb M m a x) := h
  have HI : Hid (Inv n M m a (x.ns.map Nd.e) N O) := hI
  have HCE : Hid (∀ W, Ext w W → W.cell? ⟨sb, 0, none⟩ = some (.pointer (some ⟨cb, 0, none⟩)) ∧ W.cell? ⟨sb, 1, none⟩ = some (.int .i64 m.ep) ∧ W.cell? ⟨sb, 2, none⟩ = some (.int .i64 m.lg) ∧ W.cell? ⟨sb, 3, none⟩ = some (.slice x.a1 m.nw.length x.c1) ∧ W.cell? ⟨sb, 4, none⟩ = some (.slice x.a2 m.od.length x.c2)) := fun W hx => ⟨hx.cell k0, hx.cell k1, hx.cell k2, hx.cell k3, hx.cell k4⟩
  have hclt := h.chip.lt
  have hslt := h.blk.lt
  have hsc := h.sc
  have HCK : Hid (∀ W, Kp w W [cb] → W.cell? ⟨sb, 0, none⟩ = some (.pointer (some ⟨cb, 0, none⟩)) ∧ W.cell? ⟨sb, 1, none⟩ = some (.int .i64 m.ep) ∧ W.cell? ⟨sb, 2, none⟩ = some (.int .i64 m.lg) ∧ W.cell? ⟨sb, 3, none⟩ = some (.slice x.a1 m.nw.length x.c1) ∧ W.cell? ⟨sb, 4, none⟩ = some (.slice x.a2 m.od.length x.c2)) := fun W hK => ⟨hK.cell (by simp [hsc]) k0, hK.cell (by simp [hsc]) k1, hK.cell (by simp [hsc]) k2, hK.cell (by simp [hsc]) k3, hK.cell (by simp [hsc]) k4⟩
  have HNE : Hid (∀ k : Nat, w.heap.size ≤ k → ¬ k + 1 = cb) := fun k hk => by omega
  have HNE2 : Hid (∀ k k3 pb : Nat, ∀ {k2 : Nat}, w.heap.size ≤ k → k + 1 < k2 → k2 ≤ k3 → k3 ≤ pb → ¬ pb = cb ∧ ¬ pb = k + 1) := fun k k3 pb k2 h1 h2 h3 h4 => by omega
  have HK5 : Hid (∀ w4 w5 k, Ext w w4 → w.heap.size ≤ k → Kp w4 w5 [cb, k + 1] → Kp w w5 [cb]) := fun w4 w5 k hx hk hK => (Kp.ofExt hx [cb]).new hK (fun y hy => by simp at hy; rcases hy with rfl | rfl; simp; right; omega)
  rcases hL with ⟨he0, hLO⟩ | ⟨he9, hl9, hw9, hf9⟩
  · obtain ⟨hNx, hrow⟩ := compact_next hI (by omega) hLO
    have hNE := note_end hI hLO.adv hLO.up hNx rfl hrow
    have hub1 := hLO.adv.leq _ hub (by decide)
    have hwr1 : WrOk (layS M (names m) (partsE 14 (tabRows N O))).M := fun b _ => by have h1 := (hLO.adv.wr b).1; have h2 := hI.wr b; omega
    have hep0 := (manFault_ep hI.ok).1
    have hepn := hI.ep
    have HLR : Hid (∀ W W' ub e, LayD (layS M (names m) (partsE 14 (tabRows N O))) W W' cb ub e → ∃ ao c, e = .returned (.tuple #[.slice ao (layS M (names m) (partsE 14 (tabRows N O))).bs.length c, .nilIface]) ∧ NumsAt W' ao (intsN (layS M (names m) (partsE 14 (tabRows N O))).bs) ∧ (∀ a, ao = some a → W.heap.size ≤ a.block ∧ a.block < W'.heap.size) ∧ ChipAt W' cb (layS M (names m) (partsE 14 (tabRows N O))).M ∧ Kp W W' [cb, ub]) := fun W W' ub e hd => by
      obtain ⟨⟨ao, c, h1, h2, h3⟩, h4, _, h6⟩ := hd
      rw [he0] at h1
      exact ⟨ao, c, h1, h2, h3, h4, h6⟩
    have HLG : Hid (∀ g : Nat, m.lg = (g : Int) → (noteM (layS M (names m) (partsE 14 (tabRows N O))).M a (manTxt (compM m (layS M (names m) (partsE 14 (tabRows N O))).bs))).pg g = M.pg g) := fun g hg => by
      have h1 := hLO.adv.pg g (by rw [← hg]; simp [names])
      have hr := (man_names hI.ok).1 m.lg (by simp)
      rw [(note_far (s := manTxt (compM m (layS M (names m) (partsE 14 (tabRows N O))).bs)) (hI.adv hLO.adv hLO.up).nst (by have := (manTxt_le hNx.ok).1; omega)).pg g (by omega), h1]
    have HBD : Hid (∀ b, M.bd b = true → (noteM (layS M (names m) (partsE 14 (tabRows N O))).M a (manTxt (compM m (layS M (names m) (partsE 14 (tabRows N O))).bs))).bd b = true) := fun b hb => by
      rw [(note_far (s := manTxt (compM m (layS M (names m) (partsE 14 (tabRows N O))).bs)) (hI.adv hLO.adv hLO.up).nst (by have := (manTxt_le hNx.ok).1; omega)).bd]
      exact hLO.adv.bd b hb
    have hln : (compM m (layS M (names m) (partsE 14 (tabRows N O))).bs).od.length = (layS M (names m) (partsE 14 (tabRows N O))).bs.length := by simp [compM, intsN]
    rcases hNE with ⟨ne, ni, np, nk, nl, nq⟩ | ⟨ne, nl, nk, nf⟩
    · have CN : Hid (∀ W ao c, Kp w W [cb] → ChipAt W cb (layS M (names m) (partsE 14 (tabRows N O))).M → NumsAt W ao (intsN (layS M (names m) (partsE 14 (tabRows N O))).bs) → (∀ p, ao = some p → w.heap.size ≤ p.block ∧ p.block < W.heap.size) → Calls Tryz.prog 54 #[.pointer (some ⟨sb, 0, none⟩), .agg #[.int .i64 0, .int .i64 m.lg, .slice none 0 0, .slice ao (layS M (names m) (partsE 14 (tabRows N O))).bs.length c]] W fun e w' => e = .returned .nilIface ∧ StoAt w' (S ++ addrB none ++ addrB ao) sb cb (noteM (layS M (names m) (partsE 14 (tabRows N O))).M a (manTxt (compM m (layS M (names m) (partsE 14 (tabRows N O))).bs))) (compM m (layS M (names m) (partsE 14 (tabRows N O))).bs) (noteAt (layS M (names m) (partsE 14 (tabRows N O))).M a) (withA x none 0 ao c) ∧ Kp W w' [cb, sb]) := fun W ao c h1 h2 h3 h4 => by
        have := note_sto W S sb cb (layS M (names m) (partsE 14 (tabRows N O))).M m a x (compM m (layS M (names m) (partsE 14 (tabRows N O))).bs) 0 none ao 0 c (HH.out.chg h1 h2) hI.nst.le hub1 hwr1 rfl (by show m.ep + 1 ≤ 100000; omega) (by omega) hNx.ok (fun h => absurd rfl h) h3 ⟨fun p e => (by cases e), fun p e => (by cases e), fun p e => (by cases e)⟩ (HH.out.apart h4) ne np
        rw [hln] at this
        exact this
      have HR : Hid (rowsE (x.ns.map Nd.e) [] (zipTb (layS M (names m) (partsE 14 (tabRows N O))).bs (partsE 14 (tabRows N O))) = rowsE (x.ns.map Nd.e) N O) := hrow
      have NI : Hid (Inv (n + 2) (noteM (layS M (names m) (partsE 14 (tabRows N O))).M a (manTxt (compM m (layS M (names m) (partsE 14 (tabRows N O))).bs))) (compM m (layS M (names m) (partsE 14 (tabRows N O))).bs) (noteAt (layS M (names m) (partsE 14 (tabRows N O))).M a) (x.ns.map Nd.e) [] (zipTb (layS M (names m) (partsE 14 (tabRows N O))).bs (partsE 14 (tabRows N O)))) := ni
      have NL : Hid ((M.left < 0 → (noteM (layS M (names m) (partsE 14 (tabRows N O))).M a (manTxt (compM m (layS M (names m) (partsE 14 (tabRows N O))).bs))).left = M.left) ∧ (∀ k, M.left ≤ k → 0 ≤ k → (noteM (layS M (names m) (partsE 14 (tabRows N O))).M a (manTxt (compM m (layS M (names m) (partsE 14 (tabRows N O))).bs))).left ≤ k) ∧ (noteM (layS M (names m) (partsE 14 (tabRows N O))).M a (manTxt (compM m (layS M (names m) (partsE 14 (tabRows N O))).bs))).wk = M.wk) := ⟨nl, nq, nk⟩
      clear hNx hrow hln ne np nl nq nk ni hub1 hwr1 hLO he0 hnm hval hR hup hfew hfew' hN h hI hnl hub hn hep0 hepn HI
      generalize tabRows N O = es at *
      generalize allE (tabsE N ++ tabsE O) = al at *
      go_enter Tryz.func20, Tryz.ntmps20
      go_wp2_with (first
        | (go_at_call 48; refine HD.out.mono ?_; rintro e w0 ⟨rfl, rfl⟩)
        | (go_at_call 49; refine CT.out.mono ?_; rintro e w1 ⟨ao1, c1, ls, rfl, hlc, hcl, heo, hls, hx1⟩))
      obtain ⟨r0, r1, r2, r3, r4⟩ := HKK.out
      have s0 := hx1.cell r0
      have s1 := hx1.cell r1
      have s2 := hx1.cell r2
      have s3 := hx1.cell r3
      have s4 := hx1.cell r4
      clear r0 r1 r2 r3 r4 k0 k1 k2 k3 k4
      go_region_held3 (fun W => W.cell? ⟨sb, 0, none⟩ = some (.pointer (some ⟨cb, 0, none⟩)) ∧ W.cell? ⟨sb, 1, none⟩ = some (.int .i64 m.ep) ∧ W.cell? ⟨sb, 2, none⟩ = some (.int .i64 m.lg) ∧ W.cell? ⟨sb, 3, none⟩ = some (.slice x.a1 m.nw.length x.c1) ∧ W.cell? ⟨sb, 4, none⟩ = some (.slice x.a2 m.od.length x.c2))
        (first | (go_keep; done) | exact HCK.out _ hk5 | exact HCE.out _ hw4 | exact HCE.out _ hw3 | exact HCE.out _ hw2)
        (first
          | (go_at_call 51; refine (CU.out _ (by repeat (first | exact hx1 | exact hw2 | exact hw3 | exact hw4 | refine Ext.drew ?_ | refine Ext.drewN ?_ _ | refine Ext.alloc ?_ _))).mono ?_; rintro e w2 ⟨rfl, hu2, hx2⟩; have hw2 : Ext w w2 := Ext.trans (by repeat (first | exact hx1 | exact hw2 | exact hw3 | exact hw4 | refine Ext.drew ?_ | refine Ext.drewN ?_ _ | refine Ext.alloc ?_ _)) hx2; have hw12 : Ext w1 w2 := Ext.trans (by repeat (first | exact Ext.refl _ | refine Ext.drew ?_ | refine Ext.drewN ?_ _)) hx2; have hu2lt := hu2.lt)
          | (go_at_call 53; refine (CA.out _ ls ao1 c1 hlc (hcl.ext hw12) (heo.ext hw12) hls).mono ?_; rintro e w3 ⟨ao3, c3, rfl, hc3, he3, hx3⟩; have hw3 : Ext w w3 := hw2.trans hx3)
          | (go_at_call 52; refine (CV.out _ ao3 c3 he3).mono ?_; rintro e w4 ⟨v4, rfl, hL4⟩; have hR4 := hL4.retE (Ext.refl w3); obtain ⟨ao4, c4, hv4, hc4, he4, hb4, hx4⟩ := hR4; subst hv4; have hw4 : Ext w w4 := hw3.trans hx4; have hu4 := (hu2.ext hx3).ext hx4)
          | (go_at_call 50; refine (CL.out _ _ ao4 c4 (HH.out.chip.ext hw4) hu4 (HNE.out _ (Ext.size (by repeat (first | exact hx1 | refine Ext.drew ?_ | refine Ext.drewN ?_ _ | refine Ext.alloc ?_ _)))) hc4 he4 (fun p e => HNE2.out _ _ _ (Ext.size (by repeat (first | exact hx1 | refine Ext.drew ?_ | refine Ext.drewN ?_ _ | refine Ext.alloc ?_ _))) hu2lt hx3.size (hb4 p e).1)).mono ?_; rintro e w5 hd5; obtain ⟨ao5, c5, rfl, hn5, hb5', hch5, hkp5⟩ := HLR.out _ _ _ _ hd5; have hk5 := HK5.out _ _ _ hw4 (Ext.size (by repeat (first | exact hx1 | refine Ext.drew ?_ | refine Ext.drewN ?_ _ | refine Ext.alloc ?_ _))) hkp5; have hb5 : ∀ p, ao5 = some p → w.heap.size ≤ p.block ∧ p.block < w5.heap.size := fun p e => ⟨Nat.le_trans hw4.size (hb5' p e).1, (hb5' p e).2⟩))
      have hk5' := hk5
      have s5 := HCK.out _ hk5
      obtain ⟨t0, t1, t2, t3, t4⟩ := s5
      go_wp2_with (go_at_call 54; refine (CN.out _ ao5 c5 hk5 hch5 hn5 hb5).mono ?_; rintro e w6 ⟨rfl, hs6, hk6⟩)
      go_ret
      refine .ok _ _ _ _ _ [] _ rfl hs6 (NI.out.keep (fun _ _ => rfl) (fun _ _ => rfl) NI.out.nst.up rfl NI.out.bw (fun b => Nat.le_trans (NI.out.wr b) (by omega)) (by omega)) HR.out NL.out.1 NL.out.2.1 NL.out.2.2 ?_ ?_ ⟨rfl, rfl, rfl, HLG.out, HBD.out⟩
      · have hh := HH.out
        exact (hk5.mono (by simp [hh.cS.1])).trans (hk6.mono (by simp [hh.cS.1, hh.cS.2]))
      · intro b hb
        simp only [List.mem_append] at hb
        rcases hb with (hb | hb) | hb
        · exact .inl hb
        · simp [addrB] at hb
        · obtain ⟨p, hp, e⟩ := mem_addrB.1 hb
          exact .inr (by rw [← e]; exact (hb5 p hp).1)
    · have CN : Hid (∀ W ao c, Kp w W [cb] → ChipAt W cb (layS M (names m) (partsE 14 (tabRows N O))).M → NumsAt W ao (intsN (layS M (names m) (partsE 14 (tabRows N O))).bs) → Calls Tryz.prog 54 #[.pointer (some ⟨sb, 0, none⟩), .agg #[.int .i64 0, .int .i64 m.lg, .slice none 0 0, .slice ao (layS M (names m) (partsE 14 (tabRows N O))).bs.length c]] W fun e w' => e = .returned (.iface 88 (.int .i64 9)) ∧ ChipAt w' cb (noteM (layS M (names m) (partsE 14 (tabRows N O))).M a (manTxt (compM m (layS M (names m) (partsE 14 (tabRows N O))).bs))) ∧ Kp W w' [cb]) := fun W ao c h1 h2 h3 => by
        have := note_fell W S sb cb (layS M (names m) (partsE 14 (tabRows N O))).M m a x (compM m (layS M (names m) (partsE 14 (tabRows N O))).bs) 0 none ao 0 c (HH.out.chg h1 h2) hI.nst.le hub1 hwr1 rfl (by show m.ep + 1 ≤ 100000; omega) (by omega) hNx.ok (fun h => absurd rfl h) h3 ne
        rw [hln] at this
        exact this
      have NF : Hid (¬ M.left < 0 ∧ (noteM (layS M (names m) (partsE 14 (tabRows N O))).M a (manTxt (compM m (layS M (names m) (partsE 14 (tabRows N O))).bs))).wk = M.wk ∧ FellOk (n + 3) (noteM (layS M (names m) (partsE 14 (tabRows N O))).M a (manTxt (compM m (layS M (names m) (partsE 14 (tabRows N O))).bs))) (· = rowsE (x.ns.map Nd.e) N O)) := ⟨nl, nk, nf⟩
      clear hNx hrow hln ne nl nk nf hub1 hwr1 hLO he0 hnm hval hR hup hfew hfew' hN h hI hnl hub hn hep0 hepn HI HLG
      generalize tabRows N O = es at *
      generalize allE (tabsE N ++ tabsE O) = al at *
      go_enter Tryz.func20, Tryz.ntmps20
      go_wp2_with (first
        | (go_at_call 48; refine HD.out.mono ?_; rintro e w0 ⟨rfl, rfl⟩)
        | (go_at_call 49; refine CT.out.mono ?_; rintro e w1 ⟨ao1, c1, ls, rfl, hlc, hcl, heo, hls, hx1⟩))
      obtain ⟨r0, r1, r2, r3, r4⟩ := HKK.out
      have s0 := hx1.cell r0
      have s1 := hx1.cell r1
      have s2 := hx1.cell r2
      have s3 := hx1.cell r3
      have s4 := hx1.cell r4
      clear r0 r1 r2 r3 r4 k0 k1 k2 k3 k4
      go_region_held3 (fun W => W.cell? ⟨sb, 0, none⟩ = some (.pointer (some ⟨cb, 0, none⟩)) ∧ W.cell? ⟨sb, 1, none⟩ = some (.int .i64 m.ep) ∧ W.cell? ⟨sb, 2, none⟩ = some (.int .i64 m.lg) ∧ W.cell? ⟨sb, 3, none⟩ = some (.slice x.a1 m.nw.length x.c1) ∧ W.cell? ⟨sb, 4, none⟩ = some (.slice x.a2 m.od.length x.c2))
        (first | (go_keep; done) | exact HCK.out _ hk5 | exact HCE.out _ hw4 | exact HCE.out _ hw3 | exact HCE.out _ hw2)
        (first
          | (go_at_call 51; refine (CU.out _ (by repeat (first | exact hx1 | exact hw2 | exact hw3 | exact hw4 | refine Ext.drew ?_ | refine Ext.drewN ?_ _ | refine Ext.alloc ?_ _))).mono ?_; rintro e w2 ⟨rfl, hu2, hx2⟩; have hw2 : Ext w w2 := Ext.trans (by repeat (first | exact hx1 | exact hw2 | exact hw3 | exact hw4 | refine Ext.drew ?_ | refine Ext.drewN ?_ _ | refine Ext.alloc ?_ _)) hx2; have hw12 : Ext w1 w2 := Ext.trans (by repeat (first | exact Ext.refl _ | refine Ext.drew ?_ | refine Ext.drewN ?_ _)) hx2; have hu2lt := hu2.lt)
          | (go_at_call 53; refine (CA.out _ ls ao1 c1 hlc (hcl.ext hw12) (heo.ext hw12) hls).mono ?_; rintro e w3 ⟨ao3, c3, rfl, hc3, he3, hx3⟩; have hw3 : Ext w w3 := hw2.trans hx3)
          | (go_at_call 52; refine (CV.out _ ao3 c3 he3).mono ?_; rintro e w4 ⟨v4, rfl, hL4⟩; have hR4 := hL4.retE (Ext.refl w3); obtain ⟨ao4, c4, hv4, hc4, he4, hb4, hx4⟩ := hR4; subst hv4; have hw4 : Ext w w4 := hw3.trans hx4; have hu4 := (hu2.ext hx3).ext hx4)
          | (go_at_call 50; refine (CL.out _ _ ao4 c4 (HH.out.chip.ext hw4) hu4 (HNE.out _ (Ext.size (by repeat (first | exact hx1 | refine Ext.drew ?_ | refine Ext.drewN ?_ _ | refine Ext.alloc ?_ _)))) hc4 he4 (fun p e => HNE2.out _ _ _ (Ext.size (by repeat (first | exact hx1 | refine Ext.drew ?_ | refine Ext.drewN ?_ _ | refine Ext.alloc ?_ _))) hu2lt hx3.size (hb4 p e).1)).mono ?_; rintro e w5 hd5; obtain ⟨ao5, c5, rfl, hn5, hb5', hch5, hkp5⟩ := HLR.out _ _ _ _ hd5; have hk5 := HK5.out _ _ _ hw4 (Ext.size (by repeat (first | exact hx1 | refine Ext.drew ?_ | refine Ext.drewN ?_ _ | refine Ext.alloc ?_ _))) hkp5; have hb5 : ∀ p, ao5 = some p → w.heap.size ≤ p.block ∧ p.block < w5.heap.size := fun p e => ⟨Nat.le_trans hw4.size (hb5' p e).1, (hb5' p e).2⟩))
      have s5 := HCK.out _ hk5
      obtain ⟨t0, t1, t2, t3, t4⟩ := s5
      go_wp2_with (go_at_call 54; refine (CN.out _ ao5 c5 hk5 hch5 hn5).mono ?_; rintro e w6 ⟨rfl, hc6, hk6⟩)
      go_ret
      have hh := HH.out
      exact .fell _ rfl (by have := NF.out.1; omega) hc6 NF.out.2.1 NF.out.2.2 ((hk5.trans hk6).mono (by simp [hh.cS.1]))
  · have HLR : Hid (∀ W W' ub e, LayD (layS M (names m) (partsE 14 (tabRows N O))) W W' cb ub e → ∃ ao c, e = .returned (.tuple #[.slice ao (layS M (names m) (partsE 14 (tabRows N O))).bs.length c, .iface 88 (.int .i64 9)]) ∧ ChipAt W' cb (layS M (names m) (partsE 14 (tabRows N O))).M ∧ Kp W W' [cb, ub]) := fun W W' ub e hd => by
      obtain ⟨⟨ao, c, h1, _, _⟩, h4, _, h6⟩ := hd
      rw [he9] at h1
      exact ⟨ao, c, h1, h4, h6⟩
    have NF : Hid (¬ M.left < 0 ∧ (layS M (names m) (partsE 14 (tabRows N O))).M.wk = M.wk ∧ FellOk (n + 3) (layS M (names m) (partsE 14 (tabRows N O))).M (· = rowsE (x.ns.map Nd.e) N O)) := ⟨hl9, hw9, hf9⟩
    clear hl9 hw9 hf9 he9 hnm hval hR hup hfew hfew' hN h hI hnl hub hn HI
    generalize tabRows N O = es at *
    generalize allE (tabsE N ++ tabsE O) = al at *
    generalize (layS M (names m) (partsE 14 es)).bs.length = bl at *
    go_enter Tryz.func20, Tryz.ntmps20
    go_wp2_with (first
      | (go_at_call 48; refine HD.out.mono ?_; rintro e w0 ⟨rfl, rfl⟩)
      | (go_at_call 49; refine CT.out.mono ?_; rintro e w1 ⟨ao1, c1, ls, rfl, hlc, hcl, heo, hls, hx1⟩))
    obtain ⟨r0, r1, r2, r3, r4⟩ := HKK.out
    have s0 := hx1.cell r0
    have s1 := hx1.cell r1
    have s2 := hx1.cell r2
    have s3 := hx1.cell r3
    have s4 := hx1.cell r4
    clear r0 r1 r2 r3 r4 k0 k1 k2 k3 k4
    go_region_held3 (fun W => W.cell? ⟨sb, 0, none⟩ = some (.pointer (some ⟨cb, 0, none⟩)) ∧ W.cell? ⟨sb, 1, none⟩ = some (.int .i64 m.ep) ∧ W.cell? ⟨sb, 2, none⟩ = some (.int .i64 m.lg) ∧ W.cell? ⟨sb, 3, none⟩ = some (.slice x.a1 m.nw.length x.c1) ∧ W.cell? ⟨sb, 4, none⟩ = some (.slice x.a2 m.od.length x.c2))
      (first | (go_keep; done) | exact HCK.out _ hk5 | exact HCE.out _ hw4 | exact HCE.out _ hw3 | exact HCE.out _ hw2)
      (first
        | (go_at_call 51; refine (CU.out _ (by repeat (first | exact hx1 | exact hw2 | exact hw3 | exact hw4 | refine Ext.drew ?_ | refine Ext.drewN ?_ _ | refine Ext.alloc ?_ _))).mono ?_; rintro e w2 ⟨rfl, hu2, hx2⟩; have hw2 : Ext w w2 := Ext.trans (by repeat (first | exact hx1 | exact hw2 | exact hw3 | exact hw4 | refine Ext.drew ?_ | refine Ext.drewN ?_ _ | refine Ext.alloc ?_ _)) hx2; have hw12 : Ext w1 w2 := Ext.trans (by repeat (first | exact Ext.refl _ | refine Ext.drew ?_ | refine Ext.drewN ?_ _)) hx2; have hu2lt := hu2.lt)
        | (go_at_call 53; refine (CA.out _ ls ao1 c1 hlc (hcl.ext hw12) (heo.ext hw12) hls).mono ?_; rintro e w3 ⟨ao3, c3, rfl, hc3, he3, hx3⟩; have hw3 : Ext w w3 := hw2.trans hx3)
        | (go_at_call 52; refine (CV.out _ ao3 c3 he3).mono ?_; rintro e w4 ⟨v4, rfl, hL4⟩; have hR4 := hL4.retE (Ext.refl w3); obtain ⟨ao4, c4, hv4, hc4, he4, hb4, hx4⟩ := hR4; subst hv4; have hw4 : Ext w w4 := hw3.trans hx4; have hu4 := (hu2.ext hx3).ext hx4)
        | (go_at_call 50; refine (CL.out _ _ ao4 c4 (HH.out.chip.ext hw4) hu4 (HNE.out _ (Ext.size (by repeat (first | exact hx1 | refine Ext.drew ?_ | refine Ext.drewN ?_ _ | refine Ext.alloc ?_ _)))) hc4 he4 (fun p e => HNE2.out _ _ _ (Ext.size (by repeat (first | exact hx1 | refine Ext.drew ?_ | refine Ext.drewN ?_ _ | refine Ext.alloc ?_ _))) hu2lt hx3.size (hb4 p e).1)).mono ?_; rintro e w5 hd5; obtain ⟨ao5, c5, rfl, hch5, hkp5⟩ := HLR.out _ _ _ _ hd5; have hk5 := HK5.out _ _ _ hw4 (Ext.size (by repeat (first | exact hx1 | refine Ext.drew ?_ | refine Ext.drewN ?_ _ | refine Ext.alloc ?_ _))) hkp5))
    go_wp2
    go_ret
    have hh := HH.out
    exact .fell _ rfl (by have := NF.out.1; omega) hch5 NF.out.2.1 NF.out.2.2 (hk5.mono (by simp [hh.cS.1]))
end Go.Proofs.YtjeinblcpejpnabGreatDoor
