/- StoP StoQ. -/
import Derived.Test.YtjeinblcpejpnabGreatDoorStoL

/- A store in plain words: Compact, layHand. -/
namespace Go.Proofs.YtjeinblcpejpnabGreatDoor
open Go.RowKit

theorem getE_cons_all {l : List Ent} {ls : List (List Ent)} (hl : Ris l) (k : ByteArray) : getE (allE (l :: ls)) k = (getE l k).or (getE (allE ls) k) := getE_puts hl (Ris.all ls) k
theorem getE_app_all {a b : List (List Ent)} (ha : ∀ l ∈ a, Ris l) (k : ByteArray) : getE (allE (a ++ b)) k = (getE (allE a) k).or (getE (allE b) k) := by
  rw [allE_app ha, getE_two _ _ (Ris.all a) (Ris.all b)]
theorem liveO_idem (o : Option Ent) : liveO (liveO o) = liveO o := by
  cases o with
  | none => rfl
  | some e =>
    unfold liveO
    by_cases h : e.gone = true
    · simp [h]
    · simp [h]
theorem liveO_or (p o : Option Ent) : liveO (p.or (liveO o)) = liveO (p.or o) := by
  cases p with
  | none => exact liveO_idem o
  | some e => rfl
theorem live_live {l : List Ent} (h : ∀ e ∈ l, e.gone = false) : liveE l = l := by
  unfold liveE
  rw [List.filter_eq_self]
  intro e he
  simp [h e he]
theorem tabs_ris {n : Nat} {M : CM} {m : Man} {a : Nat} {hand : List Ent} {N O : List Tb} (h : Inv n M m a hand N O) : (∀ l ∈ tabsE N, Ris l) ∧ ∀ l ∈ tabsE O, Ris l := by
  refine ⟨fun l hl => ?_, fun l hl => ?_⟩
  · obtain ⟨x, hx, rfl⟩ := List.mem_map.1 hl
    exact tabF_ris (h.tn x hx).ok
  · obtain ⟨x, hx, rfl⟩ := List.mem_map.1 hl
    exact tabF_ris (h.told x hx).ok
theorem Inv.hand {n : Nat} {M : CM} {m : Man} {a : Nat} {hand : List Ent} {N O : List Tb} (h : Inv n M m a hand N O) : Ris hand ∧ (∀ e ∈ hand, faultE e = 0) ∧ hand.length ≤ 32 := by
  obtain ⟨g, _, hl⟩ := h.lg
  exact hl.ris
theorem ints_nodup {bs : List Nat} (h : bs.Nodup) : (intsN bs).Nodup := by
  unfold intsN
  induction bs with
  | nil => simp
  | cons b r ih =>
    obtain ⟨h1, h2⟩ := List.nodup_cons.1 h
    rw [List.map_cons, List.nodup_cons]
    refine ⟨fun hm => ?_, ih h2⟩
    simp at hm
    obtain ⟨c, hc, e⟩ := hm
    obtain rfl : c = b := by omega
    exact h1 hc
def compM (m : Man) (bs : List Nat) : Man := ⟨m.ep + 1, m.lg, [], intsN bs⟩
theorem tabRows_live (N O : List Tb) : ∀ e ∈ tabRows N O, e.gone = false := fun e he => by
  have := (List.mem_filter.1 (show e ∈ List.filter _ _ from he)).2
  simpa using this
/-- Tables that are put together. -/
theorem compact_next {n : Nat} {M M1 : CM} {m : Man} {a : Nat} {hand : List Ent} {N O : List Tb} {L : List Int} {bs : List Nat} (h : Inv n M m a hand N O) (hn : n + 1 ≤ 100000) (hL : LaidOk M (m.lg :: (m.nw ++ m.od)) (partsE 14 (tabRows N O)) M1 L bs) :
    Next M1 (compM m bs) hand [] (zipTb bs (partsE 14 (tabRows N O))) ∧ rowsE hand [] (zipTb bs (partsE 14 (tabRows N O))) = rowsE hand N O := by
  have hes := zipTb_es hL.len
  have hR := tabRows_ris N O
  have hps := partsE_ris (n := 14) hR
  obtain ⟨hh1, hh2, hh3⟩ := h.hand
  have hlv := tabRows_live N O
  have key : ∀ k, getE (allE (partsE 14 (tabRows N O))) k = liveO (getE (allE (tabsE N ++ tabsE O)) k) := fun k => by
    rw [getE_parts hR]; exact getE_live (Ris.all _) k
  have hrow : rowsE hand [] (zipTb bs (partsE 14 (tabRows N O))) = rowsE hand N O := by
    refine live_ext (Ris.all _) (Ris.all _) fun k => ?_
    rw [getE_cons_all hh1, getE_cons_all hh1, show tabsE [] ++ tabsE (zipTb bs (partsE 14 (tabRows N O))) = partsE 14 (tabRows N O) by rw [hes]; rfl, key, liveO_or]
  have htr : tabRows [] (zipTb bs (partsE 14 (tabRows N O))) = tabRows N O := by
    unfold tabRows
    rw [show tabsE [] ++ tabsE (zipTb bs (partsE 14 (liveE (allE (tabsE N ++ tabsE O))))) = partsE 14 (liveE (allE (tabsE N ++ tabsE O))) by
      have := hes; unfold tabRows at this; rw [this]; rfl]
    refine live_ext (Ris.all _) (Ris.all _) fun k => ?_
    have := key k
    unfold tabRows at this
    rw [this, liveO_idem]
  obtain ⟨hnm1, hnm2⟩ := man_names h.ok
  have hep := h.ep
  have hep1 := (manFault_ep h.ok).1
  have hpl : (partsE 14 (tabRows N O)).length ≤ 3 := by
    rw [partsE_len]; unfold partsN; have := h.trows; omega
  obtain ⟨g, hg, hlog⟩ := h.lg
  refine ⟨⟨man_of (by show 1 ≤ m.ep + 1; omega) (by show m.ep + 1 ≤ 100000; omega) (fun x hx => ?_) ?_, rfl, ?_, fun x hx => (by cases hx), fun x hx => ?_, ⟨g, hg, hlog.same (hL.adv.pg g (by rw [← hg]; simp))⟩, ?_, ?_, by simp, ?_, by rw [hrow]; exact h.rows, by rw [htr]; exact h.trows⟩, hrow⟩
  · rcases List.mem_cons.1 (show x ∈ m.lg :: ([] ++ intsN bs) from hx) with rfl | hx
    · exact hnm1 _ (by simp)
    · simp [intsN] at hx
      obtain ⟨b, hb, rfl⟩ := hx
      have := hL.at_ b hb
      omega
  · show (m.lg :: ([] ++ intsN bs)).Nodup
    rw [List.nil_append, List.nodup_cons]
    refine ⟨fun hm => ?_, ?_⟩
    · simp [intsN] at hm
      obtain ⟨b, hb, e⟩ := hm
      exact (hL.at_ b hb).2.2.1 (by rw [e]; simp)
    · exact ints_nodup hL.nodup
  · show intsN bs = _
    rw [zipTb_b hL.len]
  · obtain ⟨i, h1, h2⟩ := zipTb_get hx
    exact hL.tab i x.b x.es h1 h2
  · rw [hes, partsE_flat 14 (by omega)]; exact hR
  · rw [hes, partsE_flat 14 (by omega)]; exact hlv
  · rw [zipTb_len hL.len]; exact hpl
def layHM (m : Man) (b : Nat) (bs : List Nat) : Man := ⟨m.ep + 1, (b : Int), intsN bs ++ m.nw, m.od⟩
/-- What is at hand is laid, and the log is another block. -/
theorem layHand_next {n : Nat} {M M1 M2 : CM} {m : Man} {a : Nat} {hand : List Ent} {N O : List Tb} {L L2 : List Int} {bs : List Nat} {b : Nat} (h : Inv n M m a hand N O) (hn : n + 1 ≤ 100000) (hN2 : N.length ≤ 2) (hL : LaidOk M (m.lg :: (m.nw ++ m.od)) (partsE 14 hand) M1 L bs)
    (hC : ClaimOk (fun M b => M.pg b = []) M1 L M2 L2 b 0) :
    Next M2 (layHM m b bs) [] (zipTb bs (partsE 14 hand) ++ N) O ∧ rowsE [] (zipTb bs (partsE 14 hand) ++ N) O = rowsE hand N O := by
  have hes := zipTb_es hL.len
  obtain ⟨hh1, hh2, hh3⟩ := h.hand
  have hps := partsE_ris (n := 14) hh1
  obtain ⟨hNr, hOr⟩ := tabs_ris h
  obtain ⟨_, c1, c2, c3, c4, c5, c6, _⟩ | ⟨c, _⟩ | ⟨c, _⟩ := hC.end_
  · have hte : tabsE (zipTb bs (partsE 14 hand) ++ N) = partsE 14 hand ++ tabsE N := by unfold tabsE at hes ⊢; rw [List.map_append, hes]
    have key : ∀ k, getE (allE (tabsE (zipTb bs (partsE 14 hand) ++ N) ++ tabsE O)) k = getE (allE (hand :: (tabsE N ++ tabsE O))) k := fun k => by
      rw [hte, List.append_assoc, getE_app_all hps, getE_parts hh1, getE_cons_all hh1]
    have htr : tabRows (zipTb bs (partsE 14 hand) ++ N) O = rowsE hand N O := live_ext (Ris.all _) (Ris.all _) fun k => by rw [key]
    have hrow : rowsE [] (zipTb bs (partsE 14 hand) ++ N) O = rowsE hand N O := live_ext (Ris.all _) (Ris.all _) fun k => by
      rw [getE_cons_all Ris.nil, key]; rfl
    obtain ⟨hnm1, hnm2⟩ := man_names h.ok
    have hep := h.ep
    have hep1 := (manFault_ep h.ok).1
    have hpl : (partsE 14 hand).length ≤ 3 := by rw [partsE_len]; unfold partsN; omega
    have hold : ∀ x : Tb, ∀ M', Adv L M1 L2 M' → TabAt M x.b x.es → (x.b : Int) ∈ m.lg :: (m.nw ++ m.od) → TabAt M' x.b x.es := fun x M' hA ht hm => ⟨ht.ok, ht.lt, by rw [hA.pg _ (hL.adv.mono _ hm), hL.adv.pg _ hm]; exact ht.pg⟩
    refine ⟨⟨man_of (by show 1 ≤ m.ep + 1; omega) (by show m.ep + 1 ≤ 100000; omega) (fun x hx => ?_) ?_, ?_, h.od, fun x hx => ?_, fun x hx => ?_, ⟨b, rfl, LogAt.blank c6⟩, h.ris, h.live, ?_, h.few', by rw [hrow]; exact h.rows, by rw [htr]; exact h.rows⟩, hrow⟩
    · rcases List.mem_cons.1 (show x ∈ (b : Int) :: ((intsN bs ++ m.nw) ++ m.od) from hx) with rfl | hx
      · omega
      · rw [List.append_assoc] at hx
        rcases List.mem_append.1 hx with hx | hx
        · simp [intsN] at hx
          obtain ⟨c, hc, rfl⟩ := hx
          have := hL.at_ c hc
          omega
        · exact hnm1 _ (List.mem_cons_of_mem _ hx)
    · show ((b : Int) :: ((intsN bs ++ m.nw) ++ m.od)).Nodup
      rw [List.append_assoc, List.nodup_cons, List.nodup_append]
      refine ⟨fun hm => ?_, ints_nodup hL.nodup, (List.nodup_cons.1 hnm2).2, fun x hx y hy => ?_⟩
      · rcases List.mem_append.1 hm with hm | hm
        · simp [intsN] at hm
          obtain ⟨c, hc, e⟩ := hm
          obtain rfl : c = b := by omega
          exact c3 (hL.at_ c hc).2.2.2
        · exact c3 (hL.adv.mono _ (List.mem_cons_of_mem _ hm))
      · intro e
        subst e
        simp [intsN] at hx
        obtain ⟨c, hc, rfl⟩ := hx
        exact (hL.at_ c hc).2.2.1 (List.mem_cons_of_mem _ hy)
    · show intsN bs ++ m.nw = _
      rw [List.map_append, zipTb_b hL.len, ← h.nw]
    · rcases List.mem_append.1 hx with hx | hx
      · obtain ⟨i, h1, h2⟩ := zipTb_get hx
        have ht := hL.tab i x.b x.es h1 h2
        exact ⟨ht.ok, ht.lt, by rw [hC.adv.pg _ (hL.at_ x.b (List.mem_of_getElem? h1)).2.2.2]; exact ht.pg⟩
      · exact hold x M2 hC.adv (h.tn x hx) (by rw [h.nw]; simp; exact .inr (.inl ⟨x, hx, rfl⟩))
    · exact hold x M2 hC.adv (h.told x hx) (by rw [h.od]; simp; exact .inr (.inr ⟨x, hx, rfl⟩))
    · rw [List.length_append, zipTb_len hL.len]; omega
  · cases c
  · cases c
end Go.Proofs.YtjeinblcpejpnabGreatDoor

/- A store in memory: tables are put together. -/
namespace Go.Proofs.YtjeinblcpejpnabGreatDoor
open Go.RowKit Go.WideShapes

theorem GlobT.lt {w : World} (h : GlobT w) : 1 < w.heap.size := by
  obtain ⟨f, hf⟩ := h
  have hc := (hf 0 (by omega)).1
  rcases Nat.lt_or_ge 1 w.heap.size with h' | h'
  · exact h'
  · simp [World.cell?, Array.getElem?_eq_none h'] at hc
/-- The chip alone changes. -/
theorem StoAt.chg {w w' : World} {S : List Nat} {sb cb : Nat} {M M' : CM} {m : Man} {a : Nat} {x : SMem} (h : StoAt w S sb cb M m a x) (hK : Kp w w' [cb]) (hc : ChipAt w' cb M') : StoAt w' S sb cb M' m a x :=
  ⟨hc, h.glob.kp hK (fun hm => by simp at hm; exact h.gS (hm ▸ h.cS.1)), hK.Blk h.blk (by simp [h.sc]), h.nw.kp hK (fun p e => by simp [(h.d1 p e).1]), h.od.kp hK (fun p e => by simp [(h.d2 p e).1]), h.tow.kp hK (fun b hb => by simp [(h.ts b hb).1]), h.sc, h.ts, h.d1, h.d2, h.cS, h.tS, h.aS, h.gS, fun b hb => Nat.lt_of_lt_of_le (h.lt b hb) hK.size⟩
/-- What is new lies apart from a store. -/
theorem StoAt.apart {w w' : World} {S : List Nat} {sb cb : Nat} {M : CM} {m : Man} {a : Nat} {x : SMem} (h : StoAt w S sb cb M m a x) {no : Option Addr} (hn : ∀ p, no = some p → w.heap.size ≤ p.block ∧ p.block < w'.heap.size) : Apart w' sb cb x no := by
  have hc := h.lt _ h.cS.1
  have hs := h.lt _ h.cS.2
  refine ⟨fun p e => ?_, fun p e => (hn p e).2, fun p e => ?_⟩
  · have := (hn p e).1
    exact ⟨by omega, by omega, fun hm => by have := h.lt _ (h.tS _ hm); omega⟩
  · have := (hn p e).1
    have := h.glob.lt
    omega
set_option maxRecDepth 20000 in
set_option maxHeartbeats 2000000 in
theorem note_fell (w : World) (S : List Nat) (sb cb : Nat) (M : CM) (m : Man) (a : Nat) (x : SMem) (m' : Man) (e0 : Int) (no oo : Option Addr) (nc oc : Nat) (h : StoAt w S sb cb M m a x) (ha : a ≤ 1) (hub : M.left ≤ 9223372036854775807) (hwr : WrOk M) (hep : m'.ep = m.ep + 1) (hep2 : m'.ep ≤ 100000) (hep0 : 0 ≤ m.ep) (hf : manFault m' = 0)
    (hn : NumsAt w no m'.nw) (ho : NumsAt w oo m'.od) (hE : noteE M a (manTxt m') = 9) :
    Calls Tryz.prog 54 #[.pointer (some ⟨sb, 0, none⟩), .agg #[.int .i64 e0, .int .i64 m'.lg, .slice no m'.nw.length nc, .slice oo m'.od.length oc]] w fun e w' => e = .returned (.iface 88 (.int .i64 9)) ∧ ChipAt w' cb (noteM M a (manTxt m')) ∧ Kp w w' [cb] := by
  have k0 := h.blk.cell 0
  have k1 := h.blk.cell 1
  have k5 := h.blk.cell 5
  simp [storeC] at k0 k1 k5
  have hxb : Ext w (w.alloc (.cells #[.int .i64 m'.ep, .int .i64 m'.lg, .slice no m'.nw.length nc, .slice oo m'.od.length oc] 65)) := (Ext.refl w).alloc _
  have CN : Hid (∀ W, Ext w W → Calls Tryz.prog 87 #[.pointer (some ⟨cb, 0, none⟩), .int .i64 (a : Int), .agg #[.int .i64 m'.ep, .int .i64 m'.lg, .slice no m'.nw.length nc, .slice oo m'.od.length oc]] W fun e w' => e = .returned (.tuple #[.int .i64 0, .iface 88 (.int .i64 9)]) ∧ ChipAt w' cb (noteM M a (manTxt m')) ∧ W.grownBy w' (some cb)) := fun W hx => by
    refine (note_any cb a M m' no oo nc oc W (h.chip.ext hx) ha hub hwr (hn.ext hx) (ho.ext hx) hf).mono ?_
    rintro e w' ⟨h1, h2, h3⟩
    rcases h1 with ⟨h1, _⟩ | ⟨_, h1⟩
    · rw [hE] at h1; cases h1
    · rw [hE] at h1; exact ⟨h1, h2, h3⟩
  have HH : Hid (StoAt w S sb cb M m a x) := h
  have hslt : sb < w.heap.size := h.blk.lt
  have hclt : cb < w.heap.size := h.chip.lt
  have hsc := h.sc
  have hep3 : m.ep + 1 ≤ 100000 := by omega
  rw [hep] at CN hxb
  clear h hub hwr hf hn ho hE hep hep2
  generalize noteM M a (manTxt m') = M2 at *
  go_enter Tryz.func54, Tryz.ntmps54
  go_wp2
  have bx : Blk (w.alloc (.cells #[.int .i64 (m.ep + 1), .int .i64 m'.lg, .slice no m'.nw.length nc, .slice oo m'.od.length oc] 65)) w.heap.size #[.int .i64 (m.ep + 1), .int .i64 m'.lg, .slice no m'.nw.length nc, .slice oo m'.od.length oc] 65 := Blk.new _ _ _
  have z0 := hxb.cell k0
  have z5 := hxb.cell k5
  generalize w.alloc (.cells #[.int .i64 (m.ep + 1), .int .i64 m'.lg, .slice no m'.nw.length nc, .slice oo m'.od.length oc] 65) = wa at *
  have y0 := bx.cell 0
  have y1 := bx.cell 1
  have y2 := bx.cell 2
  have y3 := bx.cell 3
  simp at y0 y1 y2 y3
  have hwb : ¬ w.heap.size = cb := by omega
  have HB3 : Hid (∀ W W', Ext wa W → W.grownBy W' (some cb) → Blk W' sb (storeC cb m a x) 75 ∧ Blk W' w.heap.size #[.int .i64 (m.ep + 1), .int .i64 m'.lg, .slice no m'.nw.length nc, .slice oo m'.od.length oc] 65) := fun W W' hx hg => ⟨((HH.out.blk.ext hxb).ext hx).grown hg hsc, (bx.ext hx).grown hg hwb⟩
  have HKP : Hid (∀ W W', Ext wa W → W.grownBy W' (some cb) → Kp w W' [cb]) := fun W W' hx hg => (Kp.ofExt (hxb.trans hx) _).trans (Kp.grown hg)
  have HXB : Hid (Ext w wa) := hxb
  clear hxb k0 k1 k5 bx
  go_region_held3 (fun w' => (w'.cell? ⟨sb, 0, none⟩ = some (.pointer (some ⟨cb, 0, none⟩)) ∧ w'.cell? ⟨sb, 5, none⟩ = some (.int .i64 (a : Int))) ∧ (w'.cell? ⟨w.heap.size, 0, none⟩ = some (.int .i64 (m.ep + 1)) ∧ w'.cell? ⟨w.heap.size, 1, none⟩ = some (.int .i64 m'.lg) ∧ w'.cell? ⟨w.heap.size, 2, none⟩ = some (.slice no m'.nw.length nc) ∧ w'.cell? ⟨w.heap.size, 3, none⟩ = some (.slice oo m'.od.length oc)))
    (first | (go_keep; done) | exact ⟨⟨hB3.1.cell 0, hB3.1.cell 5⟩, hB3.2.cell 0, hB3.2.cell 1, hB3.2.cell 2, hB3.2.cell 3⟩)
    (first | (go_at_call 87; refine (CN.out _ (HXB.out.trans (by repeat (first | exact Ext.refl _ | refine Ext.drew ?_ | refine Ext.drewN ?_ _ | refine Ext.alloc ?_ _)))).mono ?_; rintro e w3 ⟨rfl, hc3, hg3⟩; have hB3 := HB3.out _ _ (by repeat (first | exact Ext.refl _ | refine Ext.drew ?_ | refine Ext.drewN ?_ _ | refine Ext.alloc ?_ _)) hg3; have hK3 := HKP.out _ _ (by repeat (first | exact Ext.refl _ | refine Ext.drew ?_ | refine Ext.drewN ?_ _ | refine Ext.alloc ?_ _)) hg3))
  clear HB3 HKP hg3 hB3 CN z0 z5 y0 y1 y2 y3
  go_wp2
  go_ret
  exact ⟨rfl, hc3, hK3⟩
end Go.Proofs.YtjeinblcpejpnabGreatDoor
