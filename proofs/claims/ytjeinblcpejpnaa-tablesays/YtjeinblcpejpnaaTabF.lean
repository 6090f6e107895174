/- Tables: an entry of a page is found by halves. -/
import Derived.Test.YtjeinblcpejpnaaTabE
namespace Go.Proofs.Ytjeinblcpejpnaa
open Go.RowKit Go.WideShapes
attribute [local go_sem ↓] Go.wp_at_zero Go.wp_at_succ

/-- Is the key of entry i at or above a key? -/
def geK (es : List Ent) (key : ByteArray) (i : Nat) : Bool := match es[i]? with
  | none => true
  | some e => !Op.bytesLess e.key.toList key.toList
/-- The list and the key, as the closure has them. -/
structure Clo (w : World) (lb kb : Nat) (es : List Ent) (key : ByteArray) : Prop where
  l : ∃ ao cap, Blk w lb #[.slice ao es.length cap] 22 ∧ EntsAt w ao es
  k : Blk w kb #[.string key] 9
theorem Clo.ext {w w' : World} {lb kb : Nat} {es : List Ent} {key : ByteArray} (h : Clo w lb kb es key) (hx : Ext w w') : Clo w' lb kb es key := by
  obtain ⟨ao, cap, h1, h2⟩ := h.l
  exact ⟨⟨ao, cap, Blk.ext hx h1, h2.ext hx⟩, Blk.ext hx h.k⟩
set_option maxRecDepth 20000 in
set_option maxHeartbeats 1000000 in
theorem get1_any (lb kb i : Nat) (es : List Ent) (key : ByteArray) (w : World) (h : Clo w lb kb es key) (hi : i < es.length) :
    Calls Try.prog 108 #[.int .i64 (i : Int), .pointer (some ⟨lb, 0, none⟩), .pointer (some ⟨kb, 0, none⟩)] w fun e w' => e = .returned (.bool (geK es key i)) ∧ Ext w w' := by
  obtain ⟨ao, cap, h1, h2⟩ := h.l
  obtain ⟨b, off, ek, ev, eg, rfl, he, g1, g2, g3⟩ := h2.get hi
  have c1 : w.cell? ⟨lb, 0, none⟩ = some (.slice (some ⟨b, off, none⟩) es.length cap) := h1.cell 0
  have c2 : w.cell? ⟨kb, 0, none⟩ = some (.string key) := h.k.cell 0
  have hlb := h1.lt
  have hkb := h.k.lt
  have HK : Hid (geK es key i = (!Op.bytesLess ek.toList key.toList)) := by unfold geK Hid; rw [he]
  clear he h1 h2 h g2 g3
  go_enter Try.func108, Try.ntmps108
  go_wp2_with fail
  go_quiet (fail)
  go_wp2_with fail
  go_ret
  exact ⟨by rw [HK.out]; rfl, (Ext.refl w).drewN _⟩
/-- Where p begins to be true. -/
structure From (p : Nat → Bool) (n r : Nat) : Prop where
  le : r ≤ n
  lo : ∀ i, i < r → p i = false
  hi : ∀ i, r ≤ i → i < n → p i = true
set_option maxRecDepth 20000 in
set_option maxHeartbeats 1000000 in
theorem search_any (lb kb : Nat) (es : List Ent) (key : ByteArray) (w : World) (h : Clo w lb kb es key) (hl : es.length ≤ 1000) (hm : ∀ i j, i ≤ j → j < es.length → geK es key i = true → geK es key j = true) :
    Calls Try.prog 107 #[.int .i64 (es.length : Int), .func (.func 108) #[] #[.pointer (some ⟨lb, 0, none⟩), .pointer (some ⟨kb, 0, none⟩)]] w fun e w' => (∃ r : Nat, e = .returned (.int .i64 (r : Int)) ∧ From (geK es key) es.length r) ∧ Ext w w' := by
  go_enter Try.func107, Try.ntmps107
  go_wp2_with fail
  go_loopw [5, 6] (fun a c wr => ∃ i j : Nat, a = .int .i64 i ∧ c = .int .i64 j ∧ i ≤ j ∧ j ≤ es.length ∧ (∀ t, t < i → geK es key t = false) ∧ (∀ t, j ≤ t → t < es.length → geK es key t = true) ∧ Ext w wr) (fun a c _ => (intOf c).toNat - (intOf a).toNat)
  case atStart => exact ⟨0, es.length, rfl, rfl, Nat.zero_le _, Nat.le_refl _, fun t ht => by omega, fun t h1 h2 => by omega, Ext.refl _⟩
  case round =>
    obtain ⟨i, j, rfl, rfl, hij, hj, hlo, hhi, hx⟩ := hrel
    by_cases hlt : i < j
    · obtain ⟨q, hq⟩ : ∃ q : Nat, q = (i + j) / 2 := ⟨_, rfl⟩
      have hq1 : i ≤ q := by omega
      have hq2 : q < j := by omega
      have hqI : ((i : Int) + (j : Int)) / 2 = (q : Int) := by omega
      have HC : Hid (Calls Try.prog 108 #[.int .i64 (q : Int), .pointer (some ⟨lb, 0, none⟩), .pointer (some ⟨kb, 0, none⟩)] wr fun e w' => e = .returned (.bool (geK es key q)) ∧ Ext wr w') := get1_any lb kb q es key wr (h.ext hx) (by omega)
      have HLO : Hid (∀ t, t < i → geK es key t = false) := hlo
      have HHI : Hid (∀ t, j ≤ t → t < es.length → geK es key t = true) := hhi
      have HM : Hid (∀ i j, i ≤ j → j < es.length → geK es key i = true → geK es key j = true) := hm
      clear hlo hhi hm hq
      cases hp : geK es key q with
      | true =>
        rw [hp] at HC
        go_wp2_with (go_at_call 108; refine HC.out.mono ?_; rintro e w2 ⟨rfl, hx2⟩)
        go_roundw
        case rel => exact ⟨i, q, rfl, rfl, hq1, by omega, HLO.out, fun t h1 h2 => HM.out q t h1 h2 hp, hx.trans hx2⟩
        case measure => simp [intOf]; omega
      | false =>
        rw [hp] at HC
        go_wp2_with (go_at_call 108; refine HC.out.mono ?_; rintro e w2 ⟨rfl, hx2⟩)
        go_roundw
        case rel =>
          have hlo2 : ∀ t, t < q + 1 → geK es key t = false := fun t ht => by
            cases ht' : geK es key t with
            | false => rfl
            | true =>
              have := HM.out t q (by omega) (by omega) ht'
              rw [hp] at this
              cases this
          exact ⟨q + 1, j, by go_num, rfl, by omega, hj, hlo2, HHI.out, hx.trans hx2⟩
        case measure => simp [intOf]; omega
    · have hij' : i = j := by omega
      subst hij'
      have HF : Hid (From (geK es key) es.length i) := ⟨hj, hlo, hhi⟩
      clear hlo hhi hm
      go_wp2_with fail
      go_ret
      exact ⟨⟨i, rfl, HF.out⟩, hx⟩
end Go.Proofs.Ytjeinblcpejpnaa
