
/- The walk of EntrySays. -/
import Derived.Test.YtpldeejagomfjaaEntA
import Derived.Test.YtpldeejagomfjaaEntW
namespace Go.Proofs.Ytpldeejagomfjaa
open Go.RowKit Go.WideShapes
attribute [local go_sem ↓] Go.wp_at_zero Go.wp_at_succ

theorem ents_blk {w : World} {b : Nat} {key val : ByteArray} {gone : Bool} {t : TypeId} (h : Blk w b #[.string key, .string val, .bool gone] t) : EntsAt w (some ⟨b, 0, none⟩) [⟨key, val, gone⟩] := by
  intro _
  refine ⟨b, 0, rfl, fun i e he => ?_⟩
  cases i with
  | zero =>
    simp at he; subst he
    exact ⟨by rw [h.cell]; rfl, by rw [h.cell]; rfl, by rw [h.cell]; rfl⟩
  | succ i => simp at he

theorem bytes_one (w : World) :
    Calls Try.prog 22 #[.slice (some ⟨w.heap.size, 0, none⟩) 1 1] (w.alloc (.cells #[.string ⟨#[107]⟩, .string ⟨#[120]⟩, .bool false] 30)) fun e w' => e = .returned (.tuple #[.string ⟨#[1, 0, 1, 1, 107, 120]⟩, .nilIface]) ∧ Ext w w' := by
  refine (bytes_ok _ 1 [⟨⟨#[107]⟩, ⟨#[120]⟩, false⟩] _ (by decide) (ents_blk (Blk.new w _ _)) (by decide +kernel)).mono ?_
  rintro e w' ⟨rfl, hx⟩
  exact ⟨rfl, ((Ext.refl w).alloc _).trans hx⟩

set_option maxHeartbeats 1000000 in
theorem entries_any (w : World) : Calls Try.prog 17 #[] w fun e w' => e = .returned (.bool true) ∧ Ext w w' := by
  go_enter Try.func17, Try.ntmps17
  go_wp2_with (first
    | (go_at_call 22; refine (bytes_one w).mono ?_; rintro e w' ⟨rfl, hx⟩)
    | (go_at_call 19; refine (same_nil 0 _).mono ?_; rintro e w' ⟨rfl, rfl⟩))
  go_ret
  exact ⟨rfl, by assumption⟩

theorem bytesT_ge (es : List Ent) : 0 ≤ (bytesT es).2 := by
  unfold bytesT
  split
  · have : ∀ l : List Ent, 0 ≤ faultsE l := by
      intro l
      induction l with
      | nil => simp [faultsE]
      | cons x r ih =>
        unfold faultsE; split
        · exact ih
        · rcases faultB_cases x.key x.val x.gone with h | h | h <;> simp [faultE, h]
    exact this es
  · split <;> simp

theorem fault_ge (key val : ByteArray) (gone : Bool) : 0 ≤ faultB key val gone := by
  rcases faultB_cases key val gone with h | h | h <;> omega

theorem parse_no (s : ByteArray) (w : World) (hs : s.size ≤ 281474976710656) (h : parseT s = none) :
    Calls Try.prog 24 #[.string s] w fun e w' => e = .returned (.tuple #[.slice none 0 0, .iface 123 (.int .i64 4)]) ∧ Ext w w' := by
  refine (parse_any s w hs).mono ?_
  rintro e w' (⟨_, rfl, hx⟩ | ⟨es2, v, h1, _⟩)
  · exact ⟨rfl, hx⟩
  · rw [h] at h1; simp at h1
theorem ref_no (s : ByteArray) (w : World) (hs : s.size ≤ 281474976710656) (h : parseT s = none) :
    Calls Try.prog 25 #[.string s] w fun e w' => e = .returned (.tuple #[.slice none 0 0, .int .i64 4]) ∧ Ext w w' := by
  refine (refEntries_any s w hs).mono ?_
  rintro e w' (⟨_, rfl, hx⟩ | ⟨es2, v, h1, _⟩)
  · exact ⟨rfl, hx⟩
  · rw [h] at h1; simp at h1
theorem ref_ok (s : ByteArray) (w : World) (es : List Ent) (hs : s.size ≤ 281474976710656) (h : parseT s = some es) :
    Calls Try.prog 25 #[.string s] w fun e w' => ∃ ao cap, e = .returned (.tuple #[.slice ao es.length cap, .int .i64 0]) ∧ EntsAt w' ao es ∧ Ext w w' := by
  refine (refEntries_any s w hs).mono ?_
  rintro e w' (⟨h1, _⟩ | ⟨es2, v, h1, rfl, hown, hx⟩)
  · rw [h] at h1; simp at h1
  · rw [h] at h1; simp at h1; subst h1
    obtain ⟨ao, cap, rfl, he⟩ := ents_of_row hown
    exact ⟨ao, cap, rfl, he, hx⟩
theorem parseS_len : ∀ (n : Nat) (s : ByteArray) (es : List Ent), parseS n s = some es → es.length = n
  | 0, s, es, h => by unfold parseS at h; split at h <;> simp at h; subst h; rfl
  | n + 1, s, es, h => by
    unfold parseS at h
    split at h
    · simp at h
    · rename_i e k _
      cases hr : parseS n (s.extract k s.size) with
      | none => rw [hr] at h; simp at h
      | some r => rw [hr] at h; simp at h; subst h; simp [parseS_len n _ r hr]
theorem parseT_len (s : ByteArray) (es : List Ent) (h : parseT s = some es) : es.length ≤ 255 := by
  unfold parseT at h
  split at h
  · simp at h
  · have := parseS_len _ _ _ h
    have hb : byteAt s 0 < 256 := UInt8.toNat_lt _
    omega

set_option maxRecDepth 20000 in
set_option maxHeartbeats 4000000 in
theorem entrySays_any (ao : Option Addr) (cap : Nat) (es : List Ent) (s : ByteArray) (w : World) (hl : es.length ≤ 9223372036854775807) (hs : s.size ≤ 9223372036854775807) (hes : EntsAt w ao es) :
    Calls Try.prog 3 #[.slice ao es.length cap, .string s] w fun e w' => e = .returned (.bool true) ∧ Ext w w' := by
  cases hli : light es 8 with
  | false =>
    go_enter Try.func3, Try.ntmps3
    go_wp2_with (first
      | (go_at_call 17; refine (entries_any _).mono ?_; rintro e w' ⟨rfl, hx1⟩)
      | (go_at_call 18; refine (light_any ao cap es 8 _ (by omega) hl (hes.ext hx1)).mono ?_; rw [hli]; rintro e w' ⟨rfl, rfl⟩))
    go_ret
    exact ⟨rfl, by assumption⟩
  | true =>
    have h8 : es.length ≤ 8 := by unfold light at hli; simp at hli; exact hli.1
    have HL : Hid (light es 8 = true) := hli
    clear hli
    by_cases h100 : s.size ≤ 100
    · go_enter Try.func3, Try.ntmps3
      go_wp2_with (first
        | (go_at_call 17; refine (entries_any _).mono ?_; rintro e w' ⟨rfl, hx1⟩)
        | (go_at_call 18; refine (light_any ao cap es 8 _ (by omega) hl (hes.ext hx1)).mono ?_; rw [HL.out]; rintro e w' ⟨rfl, rfl⟩))
      go_loopw [6] (fun i wr => ∃ k : Nat, k ≤ es.length ∧ i = .int .i64 k ∧ Ext w wr) (fun i _ => es.length - (intOf i).toNat)
      case atStart => exact ⟨0, Nat.zero_le _, rfl, hx1⟩
      case round =>
        clear hx1
        obtain ⟨k, hk, rfl, hx⟩ := hrel
        by_cases hlt : k < es.length
        · obtain ⟨b, off, key, val, gone, rfl, he, h1, h2, h3⟩ := hes.get hlt
          have g1 := hx.cell h1
          have g2 := hx.cell h2
          have g3 := hx.cell h3
          have hbl := lt_of_cell g1
          have hfg := fault_ge key val gone
          have hk0 : (0 : Int) ≤ (k : Int) := by omega
          have hk1 : (k : Int) < (es.length : Int) := by omega
          clear h1 h2 h3 he hes
          go_wp2_with fail
          go_region_held3 (fun w' => w'.cell? ⟨b, off + k * 3, none⟩ = some (.string key) ∧ w'.cell? ⟨b, off + k * 3 + 1, none⟩ = some (.string val) ∧ w'.cell? ⟨b, off + k * 3 + 2, none⟩ = some (.bool gone)) (go_keep)
            (first
              | (go_at_call 20; refine (check_any key val gone _).mono ?_; rintro e w' ⟨rfl, c1, rfl⟩)
              | (go_at_call 21; refine (fault_any key val gone _).mono ?_; rintro e w' ⟨rfl, c2, rfl⟩)
              | (go_at_call 19; refine (same_self (faultB key val gone) hfg _).mono ?_; rintro e w' ⟨rfl, rfl⟩))
          all_goals go_wp2
          all_goals go_roundw
          all_goals first | (exact ⟨k + 1, by omega, by go_num, by repeat (first | assumption | refine Ext.drew ?_ | refine Ext.alloc ?_ _)⟩) | (simp [intOf]; omega)
        · have hbg := bytesT_ge es
          cases hpt : parseT s with
          | none =>
            have HP : Hid (parseT s = none) := hpt
            clear hpt
            go_wp2_with (first
              | (go_at_call 22; refine (bytes_any ao cap es _ (by omega) (hes.ext hx)).mono ?_; rintro e w1 ⟨rfl, hx1⟩)
              | (go_at_call 23; refine (refBytes_any ao cap es _ (by omega) (hes.ext (hx.trans hx1))).mono ?_; rintro e w2 ⟨rfl, hx2⟩)
              | (go_at_call 24; refine (parse_no s _ (by omega) HP.out).mono ?_; rintro e w3 ⟨rfl, hx3⟩)
              | (go_at_call 25; refine (ref_no s _ (by omega) HP.out).mono ?_; rintro e w4 ⟨rfl, hx4⟩)
              | (go_at_call_of 19 (errV (bytesT es).2); refine (same_self (bytesT es).2 hbg _).mono ?_; rintro e w5 ⟨rfl, rfl⟩)
              | (go_at_call 26; refine (sameEntries_eq none none 0 0 [] _ (by simp) (by intro h; simp at h) (by intro h; simp at h)).mono ?_; rintro e w6 ⟨rfl, q, rfl⟩)
              | (go_at_call_of 19 (Value.iface 123 (.int .i64 4)); refine (same_err 4 4 _).mono ?_; rintro e w7 ⟨rfl, rfl⟩))
            go_ret
            exact ⟨rfl, (((hx.trans hx1).trans hx2).trans hx3).trans hx4 |>.drewN q⟩
          | some r =>
            have HP : Hid (parseT s = some r) := hpt
            have hrl := parseT_len s r hpt
            clear hpt
            go_wp2_with (first
              | (go_at_call 22; refine (bytes_any ao cap es _ (by omega) (hes.ext hx)).mono ?_; rintro e w1 ⟨rfl, hx1⟩)
              | (go_at_call 23; refine (refBytes_any ao cap es _ (by omega) (hes.ext (hx.trans hx1))).mono ?_; rintro e w2 ⟨rfl, hx2⟩)
              | (go_at_call 24; refine (parse_ok s _ r (by omega) HP.out).mono ?_; rintro e w3 ⟨ao3, cap3, rfl, he3, hx3⟩)
              | (go_at_call 25; refine (ref_ok s _ r (by omega) HP.out).mono ?_; rintro e w4 ⟨ao4, cap4, rfl, he4, hx4⟩)
              | (go_at_call_of 19 (errV (bytesT es).2); refine (same_self (bytesT es).2 hbg _).mono ?_; rintro e w5 ⟨rfl, rfl⟩)
              | (go_at_call 26; refine (sameEntries_eq ao3 ao4 cap3 cap4 r _ (by omega) (he3.ext hx4) he4).mono ?_; rintro e w6 ⟨rfl, q, rfl⟩)
              | (go_at_call_of 19 (Value.nilIface); refine (same_nil 0 _).mono ?_; rintro e w7 ⟨rfl, rfl⟩))
            go_ret
            exact ⟨rfl, (((hx.trans hx1).trans hx2).trans hx3).trans hx4 |>.drewN q⟩
    · go_enter Try.func3, Try.ntmps3
      go_wp2_with (first
        | (go_at_call 17; refine (entries_any _).mono ?_; rintro e w' ⟨rfl, hx1⟩)
        | (go_at_call 18; refine (light_any ao cap es 8 _ (by omega) hl (hes.ext hx1)).mono ?_; rw [HL.out]; rintro e w' ⟨rfl, rfl⟩))
      go_ret
      exact ⟨rfl, by assumption⟩

end Go.Proofs.Ytpldeejagomfjaa
