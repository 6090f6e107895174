/- TopTable. -/
import Derived.Test.YtjeinblcpejpnabTabL
namespace Go.Proofs.Ytjeinblcpejpnab
open Go.RowKit Go.WideShapes
attribute [local go_sem ↓] Go.wp_at_zero Go.wp_at_succ

theorem Ext.grownC {a b c : World} {cb : Nat} (h : Ext a b) (hg : b.grownBy c (some cb)) (hb : a.heap.size ≤ cb) : Ext a c := ⟨h.below.grown hg h.size (fun k e => by cases e; exact hb)⟩
theorem same_ret' (W : World) (xo yo : Option Addr) (xc yc : Nat) (es : List Ent) (h1 : es.length ≤ 9223372036854775807) (h2 : EntsAt W xo es) (h3 : EntsAt W yo es) : Calls Try.prog 17 #[.slice xo es.length xc, .slice yo es.length yc] W fun e w' => e = .returned (.bool true) ∧ Ext W w' := by
  refine (sameEntries_eq xo yo xc yc es W h1 h2 h3).mono ?_
  rintro e w' ⟨rfl, q, rfl⟩
  exact ⟨rfl, (Ext.refl W).drewN q⟩
def eKx : Ent := ⟨⟨#[107]⟩, ⟨#[120]⟩, false⟩
theorem tab_eKx : tabF [eKx] = 0 := by
  have h1 : ¬ eKx.key.toList = [] := by rw [toList_nil]; decide
  have h2 : faultB eKx.key eKx.val eKx.gone = 0 := by
    unfold faultB
    rw [if_neg (by simp [h1, show eKx.gone = false from rfl]), if_neg (by decide)]
  unfold tabF
  rw [if_neg (by simp)]
  unfold tabS
  rw [if_neg (by simp [h2]), if_neg (by simp [notUp])]
  rfl
theorem get_eKx : getE [eKx] ⟨#[107]⟩ = some eKx := getE_of_mem (tabF_ris tab_eKx) (e := eKx) (List.mem_singleton.2 rfl)
theorem ents_one {w : World} {b : Nat} {t : TypeId} (e : Ent) (h : Blk w b #[.string e.key, .string e.val, .bool e.gone] t) : EntsAt w (some ⟨b, 0, none⟩) [e] := fun _ => ⟨b, 0, rfl, fun i x hx => by
  match i with
  | 0 => simp at hx; subst hx; exact ⟨h.cell 0, h.cell 1, h.cell 2⟩
  | n + 1 => simp at hx⟩
/-- A chip of the statement: nothing hinders it. -/
structure Calm (M : CM) : Prop where
  fine : ∀ b, Fine M b
  wr : ∀ b, M.wr b ≤ 10
theorem Calm.table {M : CM} {b : Nat} {es : List Ent} (h : Calm M) (hb : b < 24) (hz : tabF es = 0) (hw : ∀ c, M.wr c ≤ 9) : (writeT M (b : Int) es).2 = 0 ∧ TabAt (writeT M (b : Int) es).1 b es ∧ Calm (writeT M (b : Int) es).1 ∧ (∀ c, (writeT M (b : Int) es).1.wr c ≤ M.wr c + 1) := by
  obtain ⟨g1, g2, g3, _, g5, g6, g7⟩ := writeT_fine (h.fine b) hb hz
  have hwr : ∀ c, (writeT M (b : Int) es).1.wr c ≤ M.wr c + 1 := fun c => by rw [g7]; unfold upd; split <;> (try subst_vars) <;> omega
  exact ⟨g1, g2, ⟨fun c => ⟨g3.pend, by rw [g5]; exact (h.fine c).bd, by rw [g6]; exact (h.fine c).wk, g3.left⟩, fun c => by have := hwr c; have := hw c; omega⟩, hwr⟩
theorem Calm.left {M : CM} (h : Calm M) : M.left ≤ 9223372036854775807 := by rw [(h.fine 0).left]; decide
theorem Calm.wrOk {M : CM} (h : Calm M) : WrOk M := fun b _ => by have := h.wr b; omega
theorem newM_calm : Calm newM := ⟨newM_fine, fun b => by show 0 ≤ 10; omega⟩
set_option maxRecDepth 20000 in
set_option maxHeartbeats 4000000 in
theorem topTable_any (ao : Option Addr) (cap : Nat) (es : List Ent) (b : Int) (key : ByteArray) (w : World) (hl : es.length ≤ 9223372036854775807) (hcap : es.length ≤ cap) (hes : EntsAt w ao es) (hks : key.size ≤ 9223372036854775807) :
    Calls Try.prog 4 #[.slice ao es.length cap, .int .i64 b, .string key] w fun e w' => e = .returned (.bool true) ∧ Ext w w' := by
  obtain ⟨M1, M1', hM1, hM1', o1, o2, o3, o4⟩ : ∃ M1 M1', M1 = (writeT newM 3 [eKx]).1 ∧ M1' = (writeT newM 3 [eKx]).2 ∧ M1' = 0 ∧ TabAt M1 3 [eKx] ∧ Calm M1 ∧ (∀ c, M1.wr c ≤ 1) := by
    obtain ⟨o1, o2, o3, o4⟩ := newM_calm.table (b := 3) (by decide) tab_eKx (fun c => by show 0 ≤ 9; omega)
    rw [show ((3 : Nat) : Int) = 3 from rfl] at o1 o2 o3 o4
    refine ⟨_, _, rfl, rfl, o1, o2, o3, fun c => ?_⟩
    have h := o4 c
    rw [show newM.wr c = 0 from rfl] at h
    exact h
  have HW1 : Hid (∀ W v, ChipAt W w.heap.size newM → Blk W v #[.string ⟨#[107]⟩, .string ⟨#[120]⟩, .bool false] 35 → ¬ v = w.heap.size → Calls Try.prog 12 #[.pointer (some ⟨w.heap.size, 0, none⟩), .int .i64 3, .slice (some ⟨v, 0, none⟩) 1 1] W fun e w' => e = .returned .nilIface ∧ ChipAt w' w.heap.size M1 ∧ W.grownBy w' (some w.heap.size)) := fun W v hc hb hne => by
    have := tabWrite_any w.heap.size 3 (some ⟨v, 0, none⟩) 1 [eKx] newM W hc newM_calm.left newM_calm.wrOk (by simp) (by simp) (ents_one eKx hb) (fun _ a ha => by cases ha; exact hne)
    unfold WrEnd at this
    rw [← hM1', ← hM1, o1] at this
    exact this
  have hT1 : TabAt M1 3 [eKx] := o2
  have hC1 : Calm M1 := o3
  have hw1 : ∀ c, M1.wr c ≤ 1 := o4
  have HG1 : Hid (∀ W, ChipAt W w.heap.size M1 → Calls Try.prog 13 #[.pointer (some ⟨w.heap.size, 0, none⟩), .int .i64 3, .string ⟨#[107]⟩] W fun e w' => e = .returned (.tuple #[.agg #[.string ⟨#[107]⟩, .string ⟨#[120]⟩, .bool false], .bool true, .nilIface]) ∧ Ext W w') := fun W hc => by
    have := tabGet_any w.heap.size 3 [eKx] ⟨#[107]⟩ M1 W hc (hC1.fine 0).pend hT1 (by decide)
    rw [get_eKx] at this
    exact this
  clear o1 o2 o3 o4 hM1 hM1' hT1 M1'
  have HLI : Hid (∀ W, Ext w W → Calls Try.prog 14 #[.slice ao es.length cap, .int .i64 20] W fun e w' => e = .returned (.bool (light es 20)) ∧ w' = W) := fun W hx => light_any ao cap es 20 W (by decide) hl (hes.ext hx)
  have t1 : True := trivial
  go_enter Try.func4, Try.ntmps4
  go_wp2_with (first
    | (go_at_call 11; refine (new_any w).mono ?_; rintro e w1 ⟨rfl, hc1, hx1, -⟩; have hlt1 := hc1.lt)
    | (go_at_call 12; have _t := t1; refine (HW1.out _ w1.heap.size (hc1.ext ((Ext.refl w1).alloc _)) (Blk.new _ _ _) ?_).mono ?_; omega; rintro e w2 ⟨rfl, hc2, hg2⟩; clear t1)
    | (go_at_call 13; refine (HG1.out _ hc2).mono ?_; rintro e w3 ⟨rfl, hx3⟩))
  have hx4 : Ext w (w3.alloc (.cells #[.string ⟨#[107]⟩, .string ⟨#[120]⟩, .bool false] 35)) := ((((hx1.alloc _).grownC hg2 (Nat.le_refl _)).trans hx3)).alloc _
  have hc4 : ChipAt (w3.alloc (.cells #[.string ⟨#[107]⟩, .string ⟨#[120]⟩, .bool false] 35)) w.heap.size M1 := hc2.ext (hx3.trans ((Ext.refl _).alloc _))
  have HLW : Hid (Calls Try.prog 14 #[.slice ao es.length cap, .int .i64 20] (w3.alloc (.cells #[.string ⟨#[107]⟩, .string ⟨#[120]⟩, .bool false] 35)) fun e w' => e = .returned (.bool (light es 20)) ∧ w' = (w3.alloc (.cells #[.string ⟨#[107]⟩, .string ⟨#[120]⟩, .bool false] 35))) := HLI.out _ hx4
  clear HW1 HG1 HLI hc2 hx3 hg2 hc1 hx1 hlt1
  generalize (w3.alloc (.cells #[.string ⟨#[107]⟩, .string ⟨#[120]⟩, .bool false] 35)) = W4 at *
  by_cases hlg : light es 20 = true
  · rw [hlg] at HLW
    rcases (show b < 0 ∨ (0 ≤ b ∧ 24 ≤ b) ∨ (0 ≤ b ∧ b < 24 ∧ 20 < key.size) ∨ (0 ≤ b ∧ b < 24 ∧ key.size ≤ 20) by omega) with hb | ⟨hb, hb2⟩ | ⟨hb, hb2, hk⟩ | ⟨hb, hb2, hk⟩
    · go_wp2_with (go_at_call 14; refine HLW.out.mono ?_; rintro e w5 ⟨rfl, rfl⟩)
      go_ret
      exact ⟨rfl, hx4⟩
    · go_wp2_with (go_at_call 14; refine HLW.out.mono ?_; rintro e w5 ⟨rfl, rfl⟩)
      go_ret
      exact ⟨rfl, hx4⟩
    · go_wp2_with (go_at_call 14; refine HLW.out.mono ?_; rintro e w5 ⟨rfl, rfl⟩)
      go_ret
      exact ⟨rfl, hx4⟩
    · obtain ⟨b, rfl⟩ := Int.eq_ofNat_of_zero_le hb
      have hb3 : b < 24 := by omega
      have hl20 : es.length ≤ 20 := by unfold light at hlg; simp at hlg; exact hlg.1
      have hnc : ∀ a, ao = some a → es ≠ [] → ¬ a.block = w.heap.size := fun a ha hne e => by
        obtain ⟨b', off, rfl, hh⟩ := hes hne
        cases ha
        obtain ⟨x, xs, rfl⟩ := List.exists_cons_of_ne_nil hne
        have := (hh 0 x rfl).1
        have e' : b' = w.heap.size := e
        subst e'
        simp [World.cell?] at this
      clear hlg
      by_cases hz : tabF es = 0
      · have hne : es ≠ [] := by intro e; subst e; simp [tabF] at hz
        obtain ⟨M2, hM2, hT2, hC2⟩ : ∃ M2, WrEnd W4 w.heap.size (writeT M1 (b : Int) es) = (fun e w' => e = .returned .nilIface ∧ ChipAt w' w.heap.size M2 ∧ W4.grownBy w' (some w.heap.size)) ∧ TabAt M2 b es ∧ Calm M2 := by
          obtain ⟨o1, o2, o3, o4⟩ := hC1.table (b := b) hb3 hz (fun c => by have := hw1 c; omega)
          refine ⟨_, ?_, o2, o3⟩
          unfold WrEnd
          rw [o1]
          rfl
        have HW : Hid (Calls Try.prog 12 #[.pointer (some ⟨w.heap.size, 0, none⟩), .int .i64 (b : Int), .slice ao es.length cap] W4 fun e w' => e = .returned .nilIface ∧ ChipAt w' w.heap.size M2 ∧ W4.grownBy w' (some w.heap.size)) := by
          have := tabWrite_any w.heap.size b ao cap es M1 W4 hc4 hC1.left hC1.wrOk (by omega) hcap (hes.ext hx4) (fun _ a ha => hnc a ha hne)
          rw [hM2] at this
          exact this
        have hpn := (hC2.fine 0).pend
        have HA : Hid (∀ W, ChipAt W w.heap.size M2 → Calls Try.prog 16 #[.pointer (some ⟨w.heap.size, 0, none⟩), .int .i64 (b : Int)] W fun e w' => ∃ oo c, e = .returned (.tuple #[.slice oo es.length c, .nilIface]) ∧ EntsAt w' oo es ∧ Ext W w') := fun W hc => by
          have := tabAll_any w.heap.size b M2 W hc
          unfold AllEnd at this
          rw [hT2.all hpn] at this
          exact this
        have HG : Hid (∀ W (k : ByteArray), ChipAt W w.heap.size M2 → k.size ≤ 20 → Calls Try.prog 13 #[.pointer (some ⟨w.heap.size, 0, none⟩), .int .i64 (b : Int), .string k] W fun e w' => e = .returned (got3 (getE es k)) ∧ Ext W w') := fun W k hc hk => tabGet_any w.heap.size b es k M2 W hc hpn hT2 (by omega)
        have HRI : Hid (Ris es) := tabF_ris hz
        have HKS : Hid (∀ e ∈ es, e.key.size ≤ 8) := fun e he => (fault_zero (tabF_fault hz e he)).1
        have HS : Hid (∀ W oo c, Ext w W → EntsAt W oo es → Calls Try.prog 17 #[.slice oo es.length c, .slice ao es.length cap] W fun e w' => e = .returned (.bool true) ∧ Ext W w') := fun W oo c hx ho => same_ret' W oo ao c cap es (by omega) ho (hes.ext hx)
        have HES : Hid (EntsAt w ao es) := hes
        clear hM2 hT2 hpn hz hes hnc hC1 hw1 hC2
        go_wp2_with (first
          | (go_at_call 14; refine HLW.out.mono ?_; rintro e w5 ⟨rfl, rfl⟩)
          | (go_at_call 12; refine HW.out.mono ?_; rintro e w6 ⟨rfl, hc6, hg6⟩)
          | (go_at_call 16; refine (HA.out _ hc6).mono ?_; rintro e w7 ⟨oo, c7, rfl, hE7, hx7⟩)
          | (go_at_call 17; refine (HS.out _ oo c7 ((hx4.grownC hg6 (Nat.le_refl _)).trans hx7) hE7).mono ?_; rintro e w8 ⟨rfl, hx8⟩))
        have hxw8 : Ext w w8 := ((hx4.grownC hg6 (Nat.le_refl _)).trans hx7).trans hx8
        have hc8 : ChipAt w8 w.heap.size M2 := hc6.ext (hx7.trans hx8)
        clear HW HA HS HLW hc4 hc6 hg6 hE7 hx7 hx8 hx4
        go_loopw [13] (fun i wr => ∃ k : Nat, k ≤ es.length ∧ i = .int .i64 k ∧ Ext w8 wr) (fun i _ => es.length - (intOf i).toNat)
        case atStart => exact ⟨0, Nat.zero_le _, rfl, Ext.refl _⟩
        case round =>
          obtain ⟨k, hkl, rfl, hxr⟩ := hrel
          have hcr := hc8.ext hxr
          have hxwr := hxw8.trans hxr
          by_cases hlt : k < es.length
          · obtain ⟨eb, eo, ek, ev, eg, rfl, he, g1, g2, g3⟩ := (HES.out.ext hxwr).get hlt
            have hmem := List.mem_of_getElem? he
            have hg := getE_of_mem HRI.out hmem
            have hk8 := HKS.out _ hmem
            dsimp only at hg hk8
            have HGK : Hid (Calls Try.prog 13 #[.pointer (some ⟨w.heap.size, 0, none⟩), .int .i64 (b : Int), .string ek] wr fun e w' => e = .returned (.tuple #[.agg #[.string ek, .string ev, .bool eg], .bool true, .nilIface]) ∧ Ext wr w') := by
              have := HG.out wr ek hcr (by omega)
              rw [hg] at this
              exact this
            clear hg he hmem HRI HKS
            go_wp2_with (go_at_call 13; refine HGK.out.mono ?_; rintro e w9 ⟨rfl, hx9⟩)
            have c1 := hx9.cell g1
            have c2 := hx9.cell g2
            have c3 := hx9.cell g3
            have hbl : eb < w9.heap.size := by
              rcases Nat.lt_or_ge eb w9.heap.size with h' | h'
              · exact h'
              · simp [World.cell?, Array.getElem?_eq_none h'] at c1
            have hbn : ¬ eb = w9.heap.size := by omega
            clear g1 g2 g3
            go_wp2_with fail
            go_quiet (fail)
            go_wp2
            go_roundw
            case rel => exact ⟨k + 1, by omega, by go_num, ((hxr.trans hx9).alloc _).drewN _⟩
            case measure => simp [intOf]; omega
          · have HGL := HG.out
            have hEr := HES.out.ext hxwr
            cases hgk : getE es key with
            | none =>
              have HG9 : Hid (∀ W, Ext wr W → Calls Try.prog 13 #[.pointer (some ⟨w.heap.size, 0, none⟩), .int .i64 (b : Int), .string key] W fun e w' => e = .returned (.tuple #[.agg #[.string ⟨#[]⟩, .string ⟨#[]⟩, .bool false], .bool false, .nilIface]) ∧ Ext W w') := fun W hx => by
                have := HGL W key (hcr.ext hx) hk
                rw [hgk] at this
                exact this
              have HR9 : Hid (∀ W, Ext wr W → Calls Try.prog 18 #[.slice ao es.length cap, .string key] W fun e w' => e = .returned (.tuple #[.agg #[.string ⟨#[]⟩, .string ⟨#[]⟩, .bool false], .bool false]) ∧ Ext W w') := fun W hx => by
                have := refGet_any ao cap es key W hl (hEr.ext hx)
                rw [hgk] at this
                exact this
              clear HGL hgk hEr HES
              go_wp2_with (first
                | (go_at_call 13; refine (HG9.out _ (Ext.refl _)).mono ?_; rintro e w9 ⟨rfl, hx9⟩)
                | (go_at_call 18; refine (HR9.out _ (hx9.alloc _)).mono ?_; rintro e w10 ⟨rfl, hx10⟩; have D17 := (Blk.new w9 #[.string ⟨#[]⟩, .string ⟨#[]⟩, .bool false] 35).ext hx10; have d0 : w10.cell? ⟨w9.heap.size, 0, none⟩ = some (.string ⟨#[]⟩) := D17.cell 0; have d1 : w10.cell? ⟨w9.heap.size, 1, none⟩ = some (.string ⟨#[]⟩) := D17.cell 1; have d2 : w10.cell? ⟨w9.heap.size, 2, none⟩ = some (.bool false) := D17.cell 2; have hl9 := D17.lt; have hn9 : ¬ w9.heap.size = w10.heap.size := Nat.ne_of_lt D17.lt))
              go_ret
              exact ⟨rfl, (hxwr.trans ((hx9.alloc _).trans hx10)).alloc _⟩
            | some e0 =>
              obtain ⟨ek, ev, eg⟩ := e0
              have HG9 : Hid (∀ W, Ext wr W → Calls Try.prog 13 #[.pointer (some ⟨w.heap.size, 0, none⟩), .int .i64 (b : Int), .string key] W fun e w' => e = .returned (.tuple #[.agg #[.string ek, .string ev, .bool eg], .bool true, .nilIface]) ∧ Ext W w') := fun W hx => by
                have := HGL W key (hcr.ext hx) hk
                rw [hgk] at this
                exact this
              have HR9 : Hid (∀ W, Ext wr W → Calls Try.prog 18 #[.slice ao es.length cap, .string key] W fun e w' => e = .returned (.tuple #[.agg #[.string ek, .string ev, .bool eg], .bool true]) ∧ Ext W w') := fun W hx => by
                have := refGet_any ao cap es key W hl (hEr.ext hx)
                rw [hgk] at this
                exact this
              clear HGL hgk hEr HES
              go_wp2_with (first
                | (go_at_call 13; refine (HG9.out _ (Ext.refl _)).mono ?_; rintro e w9 ⟨rfl, hx9⟩)
                | (go_at_call 18; refine (HR9.out _ (hx9.alloc _)).mono ?_; rintro e w10 ⟨rfl, hx10⟩; have D17 := (Blk.new w9 #[.string ek, .string ev, .bool eg] 35).ext hx10; have d0 : w10.cell? ⟨w9.heap.size, 0, none⟩ = some (.string ek) := D17.cell 0; have d1 : w10.cell? ⟨w9.heap.size, 1, none⟩ = some (.string ev) := D17.cell 1; have d2 : w10.cell? ⟨w9.heap.size, 2, none⟩ = some (.bool eg) := D17.cell 2; have hl9 := D17.lt; have hn9 : ¬ w9.heap.size = w10.heap.size := Nat.ne_of_lt D17.lt))
              go_ret
              exact ⟨rfl, (hxwr.trans ((hx9.alloc _).trans hx10)).alloc _⟩
      · have HW : Hid (Calls Try.prog 12 #[.pointer (some ⟨w.heap.size, 0, none⟩), .int .i64 (b : Int), .slice ao es.length cap] W4 fun e w' => e = .returned (.iface 93 (.int .i64 (tabF es))) ∧ W4.grownBy w' (some w.heap.size)) := by
          have := tabWrite_any w.heap.size b ao cap es M1 W4 hc4 hC1.left hC1.wrOk (by omega) hcap (hes.ext hx4) (fun h => absurd h hz)
          unfold WrEnd writeT at this
          rw [if_pos hz] at this
          dsimp only at this
          unfold errV at this
          rw [if_neg hz] at this
          exact this.mono fun e w' ⟨h1, _, h3⟩ => ⟨h1, h3⟩
        have HK : Hid (∀ W, Ext w W → Calls Try.prog 15 #[.slice ao es.length cap] W fun e w' => e = .returned (.iface 93 (.int .i64 (tabF es))) ∧ Ext W w') := fun W hx => by
          have := tabCheck_any ao cap es W hl (hes.ext hx)
          unfold errV at this
          rw [if_neg hz] at this
          exact this
        clear hz hes hnc hC1 hw1 hc4
        generalize tabF es = f at *
        go_wp2_with (first
          | (go_at_call 14; refine HLW.out.mono ?_; rintro e w5 ⟨rfl, rfl⟩)
          | (go_at_call 12; refine HW.out.mono ?_; rintro e w6 ⟨rfl, hg6⟩)
          | (go_at_call 15; refine (HK.out _ (hx4.grownC hg6 (Nat.le_refl _))).mono ?_; rintro e w7 ⟨rfl, hx7⟩))
        go_ret
        exact ⟨rfl, (hx4.grownC hg6 (Nat.le_refl _)).trans hx7⟩
  · have hlg' : light es 20 = false := by simpa using hlg
    rw [hlg'] at HLW
    clear hlg hlg' hes
    go_wp2_with (go_at_call 14; refine HLW.out.mono ?_; rintro e w5 ⟨rfl, rfl⟩)
    go_ret
    exact ⟨rfl, hx4⟩
end Go.Proofs.Ytjeinblcpejpnab
