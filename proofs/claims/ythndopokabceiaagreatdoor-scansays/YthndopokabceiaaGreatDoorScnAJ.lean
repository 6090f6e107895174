/- ScnA. -/
import Derived.Test.YthndopokabceiaaGreatDoorTopKJ
import Derived.Test.YthndopokabceiaaGreatDoorTabHJ

/- Rows, some at a time: how they are searched. -/
namespace Go.Proofs.YthndopokabceiaaGreatDoor
open Go.RowKit Go.WideShapes
attribute [local go_sem ↓] Go.wp_at_zero Go.wp_at_succ

theorem gt_less (a b : ByteArray) : (!Op.bytesLess a.toList b.toList && !(a.toList == b.toList)) = Op.bytesLess b.toList a.toList := by
  rcases Lt.tri a b with h | rfl | h
  · rw [h.less, Lt.nless h.asymm]; rfl
  · rw [Lt.nless (Lt.irrefl _)]; simp
  · rw [Lt.nless h.asymm, beq_ne h.ne.symm, h.less]; rfl
/-- Is the key of entry i above a key? -/
def gtK (es : List Ent) (key : ByteArray) (i : Nat) : Bool := match es[i]? with
  | none => true
  | some e => Op.bytesLess key.toList e.key.toList
set_option maxRecDepth 20000 in
set_option maxHeartbeats 1000000 in
theorem sPage1_any (lb kb i : Nat) (es : List Ent) (key : ByteArray) (w : World) (h : Clo w lb kb es key) (hi : i < es.length) :
    Calls Tryz.prog 82 #[.int .i64 (i : Int), .pointer (some ⟨lb, 0, none⟩), .pointer (some ⟨kb, 0, none⟩)] w fun e w' => e = .returned (.bool (gtK es key i)) ∧ Ext w w' := by
  obtain ⟨ao, cap, h1, h2⟩ := h.l
  obtain ⟨b, off, ek, ev, eg, rfl, he, g1, g2, g3⟩ := h2.get hi
  have c1 : w.cell? ⟨lb, 0, none⟩ = some (.slice (some ⟨b, off, none⟩) es.length cap) := h1.cell 0
  have c2 : w.cell? ⟨kb, 0, none⟩ = some (.string key) := h.k.cell 0
  have hlb := h1.lt
  have hkb := h.k.lt
  have HK : Hid (gtK es key i = (Op.bytesLess key.toList ek.toList)) := by unfold gtK Hid; rw [he]
  clear he h1 h2 h g2 g3
  go_enter Tryz.func82, Tryz.ntmps82
  go_wp2_with fail
  go_quiet (fail)
  go_wp2_with fail
  go_ret
  exact ⟨by rw [HK.out]; exact congrArg (fun b => Ending.returned (.bool b)) (gt_less ek key), (Ext.refl w).drewN _⟩
set_option maxRecDepth 20000 in
set_option maxHeartbeats 1000000 in
theorem sPage_any (lb kb : Nat) (es : List Ent) (key : ByteArray) (w : World) (h : Clo w lb kb es key) (hl : es.length ≤ 1000) (hm : ∀ i j, i ≤ j → j < es.length → gtK es key i = true → gtK es key j = true) :
    Calls Tryz.prog 81 #[.int .i64 (es.length : Int), .func (.func 82) #[] #[.pointer (some ⟨lb, 0, none⟩), .pointer (some ⟨kb, 0, none⟩)]] w fun e w' => (∃ r : Nat, e = .returned (.int .i64 (r : Int)) ∧ From (gtK es key) es.length r) ∧ Ext w w' := by
  go_enter Tryz.func81, Tryz.ntmps81
  go_wp2_with fail
  go_loopw [5, 6] (fun a c wr => ∃ i j : Nat, a = .int .i64 i ∧ c = .int .i64 j ∧ i ≤ j ∧ j ≤ es.length ∧ (∀ t, t < i → gtK es key t = false) ∧ (∀ t, j ≤ t → t < es.length → gtK es key t = true) ∧ Ext w wr) (fun a c _ => (intOf c).toNat - (intOf a).toNat)
  case atStart => exact ⟨0, es.length, rfl, rfl, Nat.zero_le _, Nat.le_refl _, fun t ht => by omega, fun t h1 h2 => by omega, Ext.refl _⟩
  case round =>
    obtain ⟨i, j, rfl, rfl, hij, hj, hlo, hhi, hx⟩ := hrel
    by_cases hlt : i < j
    · obtain ⟨q, hq⟩ : ∃ q : Nat, q = (i + j) / 2 := ⟨_, rfl⟩
      have hq1 : i ≤ q := by omega
      have hq2 : q < j := by omega
      have hqI : ((i : Int) + (j : Int)) / 2 = (q : Int) := by omega
      have HC : Hid (Calls Tryz.prog 82 #[.int .i64 (q : Int), .pointer (some ⟨lb, 0, none⟩), .pointer (some ⟨kb, 0, none⟩)] wr fun e w' => e = .returned (.bool (gtK es key q)) ∧ Ext wr w') := sPage1_any lb kb q es key wr (h.ext hx) (by omega)
      have HLO : Hid (∀ t, t < i → gtK es key t = false) := hlo
      have HHI : Hid (∀ t, j ≤ t → t < es.length → gtK es key t = true) := hhi
      have HM : Hid (∀ i j, i ≤ j → j < es.length → gtK es key i = true → gtK es key j = true) := hm
      clear hlo hhi hm hq
      cases hp : gtK es key q with
      | true =>
        rw [hp] at HC
        go_wp2_with (go_at_call 82; refine HC.out.mono ?_; rintro e w2 ⟨rfl, hx2⟩)
        go_roundw
        case rel => exact ⟨i, q, rfl, rfl, hq1, by omega, HLO.out, fun t h1 h2 => HM.out q t h1 h2 hp, hx.trans hx2⟩
        case measure => simp [intOf]; omega
      | false =>
        rw [hp] at HC
        go_wp2_with (go_at_call 82; refine HC.out.mono ?_; rintro e w2 ⟨rfl, hx2⟩)
        go_roundw
        case rel =>
          have hlo2 : ∀ t, t < q + 1 → gtK es key t = false := fun t ht => by
            cases ht' : gtK es key t with
            | false => rfl
            | true =>
              have := HM.out t q (by omega) (by omega) ht'
              rw [hp] at this
              cases this
          exact ⟨q + 1, j, by go_num, rfl, by omega, hj, hlo2, HHI.out, hx.trans hx2⟩
        case measure => simp [intOf]; omega
    · have hij' : i = j := by omega
      subst hij'
      have HF : Hid (From (gtK es key) es.length i) := ⟨hj, hlo, hhi⟩
      clear hlo hhi hm
      go_wp2_with fail
      go_ret
      exact ⟨⟨i, rfl, HF.out⟩, hx⟩
set_option maxRecDepth 20000 in
set_option maxHeartbeats 1000000 in
theorem sBelow1_any (lb kb i : Nat) (es : List Ent) (key : ByteArray) (w : World) (h : Clo w lb kb es key) (hi : i < es.length) :
    Calls Tryz.prog 127 #[.int .i64 (i : Int), .pointer (some ⟨lb, 0, none⟩), .pointer (some ⟨kb, 0, none⟩)] w fun e w' => e = .returned (.bool (geK es key i)) ∧ Ext w w' := by
  obtain ⟨ao, cap, h1, h2⟩ := h.l
  obtain ⟨b, off, ek, ev, eg, rfl, he, g1, g2, g3⟩ := h2.get hi
  have c1 : w.cell? ⟨lb, 0, none⟩ = some (.slice (some ⟨b, off, none⟩) es.length cap) := h1.cell 0
  have c2 : w.cell? ⟨kb, 0, none⟩ = some (.string key) := h.k.cell 0
  have hlb := h1.lt
  have hkb := h.k.lt
  have HK : Hid (geK es key i = (!Op.bytesLess ek.toList key.toList)) := by unfold geK Hid; rw [he]
  clear he h1 h2 h g2 g3
  go_enter Tryz.func127, Tryz.ntmps127
  go_wp2_with fail
  go_quiet (fail)
  go_wp2_with fail
  go_ret
  exact ⟨by rw [HK.out]; rfl, (Ext.refl w).drewN _⟩
set_option maxRecDepth 20000 in
set_option maxHeartbeats 1000000 in
theorem sBelow_any (lb kb : Nat) (es : List Ent) (key : ByteArray) (w : World) (h : Clo w lb kb es key) (hl : es.length ≤ 1000) (hm : ∀ i j, i ≤ j → j < es.length → geK es key i = true → geK es key j = true) :
    Calls Tryz.prog 81 #[.int .i64 (es.length : Int), .func (.func 127) #[] #[.pointer (some ⟨lb, 0, none⟩), .pointer (some ⟨kb, 0, none⟩)]] w fun e w' => (∃ r : Nat, e = .returned (.int .i64 (r : Int)) ∧ From (geK es key) es.length r) ∧ Ext w w' := by
  go_enter Tryz.func81, Tryz.ntmps81
  go_wp2_with fail
  go_loopw [5, 6] (fun a c wr => ∃ i j : Nat, a = .int .i64 i ∧ c = .int .i64 j ∧ i ≤ j ∧ j ≤ es.length ∧ (∀ t, t < i → geK es key t = false) ∧ (∀ t, j ≤ t → t < es.length → geK es key t = true) ∧ Ext w wr) (fun a c _ => (intOf c).toNat - (intOf a).toNat)
  case atStart => exact ⟨0, es.length, rfl, rfl, Nat.zero_le _, Nat.le_refl _, fun t ht => by omega, fun t h1 h2 => by omega, Ext.refl _⟩
  case round =>
    obtain ⟨i, j, rfl, rfl, hij, hj, hlo, hhi, hx⟩ := hrel
    by_cases hlt : i < j
    · obtain ⟨q, hq⟩ : ∃ q : Nat, q = (i + j) / 2 := ⟨_, rfl⟩
      have hq1 : i ≤ q := by omega
      have hq2 : q < j := by omega
      have hqI : ((i : Int) + (j : Int)) / 2 = (q : Int) := by omega
      have HC : Hid (Calls Tryz.prog 127 #[.int .i64 (q : Int), .pointer (some ⟨lb, 0, none⟩), .pointer (some ⟨kb, 0, none⟩)] wr fun e w' => e = .returned (.bool (geK es key q)) ∧ Ext wr w') := sBelow1_any lb kb q es key wr (h.ext hx) (by omega)
      have HLO : Hid (∀ t, t < i → geK es key t = false) := hlo
      have HHI : Hid (∀ t, j ≤ t → t < es.length → geK es key t = true) := hhi
      have HM : Hid (∀ i j, i ≤ j → j < es.length → geK es key i = true → geK es key j = true) := hm
      clear hlo hhi hm hq
      cases hp : geK es key q with
      | true =>
        rw [hp] at HC
        go_wp2_with (go_at_call 127; refine HC.out.mono ?_; rintro e w2 ⟨rfl, hx2⟩)
        go_roundw
        case rel => exact ⟨i, q, rfl, rfl, hq1, by omega, HLO.out, fun t h1 h2 => HM.out q t h1 h2 hp, hx.trans hx2⟩
        case measure => simp [intOf]; omega
      | false =>
        rw [hp] at HC
        go_wp2_with (go_at_call 127; refine HC.out.mono ?_; rintro e w2 ⟨rfl, hx2⟩)
        go_roundw
        case rel =>
          have hlo2 : ∀ t, t < q + 1 → geK es key t = false := fun t ht => by
            cases ht' : geK es key t with
            | false => rfl
            | true =>
              have := HM.out t q (by omega) (by omega) ht'
              rw [hp] at this
              cases this
          exact ⟨q + 1, j, by go_num, rfl, by omega, hj, hlo2, HHI.out, hx.trans hx2⟩
        case measure => simp [intOf]; omega
    · have hij' : i = j := by omega
      subst hij'
      have HF : Hid (From (geK es key) es.length i) := ⟨hj, hlo, hhi⟩
      clear hlo hhi hm
      go_wp2_with fail
      go_ret
      exact ⟨⟨i, rfl, HF.out⟩, hx⟩
theorem gtK_mono {es : List Ent} (hr : Ris es) (key : ByteArray) : ∀ i j, i ≤ j → j < es.length → gtK es key i = true → gtK es key j = true := fun i j hij hj h => by
  rcases Nat.lt_or_eq_of_le hij with h' | rfl
  · have hp := hr
    unfold Ris at hp
    rw [List.pairwise_iff_getElem] at hp
    have hl := hp i j (by omega) hj h'
    unfold gtK at h ⊢
    rw [List.getElem?_eq_getElem (by omega)] at h ⊢
    exact (show Lt key es[i].key from h).trans hl
  · exact h
theorem geK_mono {es : List Ent} (hr : Ris es) (key : ByteArray) : ∀ i j, i ≤ j → j < es.length → geK es key i = true → geK es key j = true := fun i j hij hj h => by
  rcases Nat.lt_or_eq_of_le hij with h' | rfl
  · have hp := hr
    unfold Ris at hp
    rw [List.pairwise_iff_getElem] at hp
    have hl := hp i j (by omega) hj h'
    unfold geK at h ⊢
    rw [List.getElem?_eq_getElem (by omega)] at h ⊢
    simp only [Bool.not_eq_true'] at h ⊢
    refine Lt.nless fun hc => ?_
    have := hl.trans hc
    unfold Lt at this
    rw [this] at h
    cases h
  · exact h
/-- A part of a list. -/
theorem EntsAt.drop {w : World} {b off : Nat} {es : List Ent} (h : EntsAt w (some ⟨b, off, none⟩) es) (r : Nat) : EntsAt w (some ⟨b, off + r * 3, none⟩) (es.drop r) := fun hne => by
  obtain ⟨b', off', e, hc⟩ := h (fun e => hne (by rw [e]; simp))
  cases e
  refine ⟨b, off + r * 3, rfl, fun i x hx => ?_⟩
  rw [List.getElem?_drop] at hx
  have := hc _ x hx
  rw [show off + r * 3 + i * 3 = off + (r + i) * 3 by omega]
  exact this
theorem EntsAt.take {w : World} {ao : Option Addr} {es : List Ent} (h : EntsAt w ao es) (r : Nat) : EntsAt w ao (es.take r) := fun hne => by
  obtain ⟨b', off', e, hc⟩ := h (fun e => hne (by rw [e]; simp))
  refine ⟨b', off', e, fun i x hx => ?_⟩
  rw [List.getElem?_take] at hx
  split at hx
  · exact hc i x hx
  · cases hx
end Go.Proofs.YthndopokabceiaaGreatDoor
