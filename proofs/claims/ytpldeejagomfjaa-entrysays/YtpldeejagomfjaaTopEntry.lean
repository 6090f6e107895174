
/- The walk of TopEntry. -/
import Derived.Test.YtpldeejagomfjaaEntS
namespace Go.Proofs.Ytpldeejagomfjaa
open Go.RowKit Go.WideShapes

theorem bytes_ok (ao : Option Addr) (cap : Nat) (es : List Ent) (w : World) (hl : es.length ≤ 200) (hes : EntsAt w ao es) (h : bytesT es = (encT es, 0)) :
    Calls Try.prog 22 #[.slice ao es.length cap] w fun e w' => e = .returned (.tuple #[.string (txt (encT es)), .nilIface]) ∧ Ext w w' := by
  refine (bytes_any ao cap es w hl hes).mono ?_
  rintro e w' ⟨rfl, hx⟩
  exact ⟨by rw [h]; rfl, hx⟩
theorem bytes_bad (ao : Option Addr) (cap : Nat) (es : List Ent) (w : World) (hl : es.length ≤ 200) (hes : EntsAt w ao es) (n : Int) (hn : ¬ n = 0) (h : bytesT es = ([], n)) :
    Calls Try.prog 22 #[.slice ao es.length cap] w fun e w' => e = .returned (.tuple #[.string ⟨#[]⟩, .iface 123 (.int .i64 n)]) ∧ Ext w w' := by
  refine (bytes_any ao cap es w hl hes).mono ?_
  rintro e w' ⟨rfl, hx⟩
  exact ⟨by rw [h]; simp only [errV, if_neg hn]; rfl, hx⟩
theorem bytesT_cases (es : List Ent) : (bytesT es = (encT es, 0) ∧ ∀ e ∈ es, faultE e = 0) ∨ ∃ n, ¬ n = 0 ∧ bytesT es = ([], n) := by
  unfold bytesT
  by_cases h : faultsE es = 0
  · rw [if_neg (by simp [h])]
    by_cases h64 : 64 < (encT es).length
    · rw [if_pos h64]; exact .inr ⟨2, by decide, rfl⟩
    · rw [if_neg h64]; exact .inl ⟨rfl, faultsE_zero h⟩
  · rw [if_pos h]; exact .inr ⟨_, h, rfl⟩
theorem bytes_nil (w : World) :
    Calls Try.prog 22 #[.slice none 0 0] w fun e w' => e = .returned (.tuple #[.string ⟨#[0]⟩, .nilIface]) ∧ Ext w w' :=
  bytes_ok none 0 [] w (by simp) (by intro h; simp at h) (by rfl)
theorem txt_snoc (l : List UInt8) (k : Nat) : txt (l ++ List.replicate k 0) ++ ⟨#[0]⟩ = txt (l ++ List.replicate (k + 1) 0) := by
  apply ba_ext
  simp [txt, List.replicate_succ']

theorem i64_and63 (n : Int) : bits .and .i64 n 63 = n % 64 := by
  have h63 : (BitVec.ofInt 64 63).toNat = 2 ^ 6 - 1 := by decide
  have key : (BitVec.ofInt 64 n &&& BitVec.ofInt 64 63).toNat = (n % ((2 ^ 64 : Nat) : Int)).toNat % 2 ^ 6 := by
    rw [BitVec.toNat_and, BitVec.toNat_ofInt, h63, Nat.and_two_pow_sub_one_eq_mod]
  show IntKind.i64.wrap ((BitVec.ofInt 64 n &&& BitVec.ofInt 64 63).toNat : Nat) = n % 64
  rw [key, IntKind.wrap_i64]
  omega
theorem parse_ok (s : ByteArray) (w : World) (es : List Ent) (hs : s.size ≤ 281474976710656) (h : parseT s = some es) :
    Calls Try.prog 24 #[.string s] w fun e w' => ∃ ao cap, e = .returned (.tuple #[.slice ao es.length cap, .nilIface]) ∧ EntsAt w' ao es ∧ Ext w w' := by
  refine (parse_any s w hs).mono ?_
  rintro e w' (⟨h1, _⟩ | ⟨es2, v, h1, rfl, hown, hx⟩)
  · rw [h] at h1; simp at h1
  · rw [h] at h1; simp at h1; subst h1
    obtain ⟨ao, cap, rfl, he⟩ := ents_of_row hown
    exact ⟨ao, cap, rfl, he, hx⟩
set_option maxRecDepth 20000 in
set_option maxHeartbeats 2000000 in
theorem topEntry_any (ao : Option Addr) (cap : Nat) (es : List Ent) (n : Int) (w : World) (hl : es.length ≤ 9223372036854775807) (hes : EntsAt w ao es) :
    Calls Try.prog 5 #[.slice ao es.length cap, .int .i64 n] w fun e w' => e = .returned (.bool true) ∧ Ext w w' := by
  cases hli : light es 8 with
  | false =>
    go_enter Try.func5, Try.ntmps5
    go_wp2_with (first
      | (go_at_call 22; refine (bytes_nil _).mono ?_; rintro e w' ⟨rfl, hx1⟩)
      | (go_at_call 18; refine (light_any ao cap es 8 _ (by omega) hl (hes.ext hx1)).mono ?_; rw [hli]; rintro e w' ⟨rfl, rfl⟩))
    go_ret
    exact ⟨rfl, by assumption⟩
  | true =>
    have h8 : es.length ≤ 8 := by unfold light at hli; simp at hli; exact hli.1
    have HL : Hid (light es 8 = true) := hli
    clear hli
    rcases bytesT_cases es with ⟨hb, hf⟩ | ⟨m, hm, hb⟩
    · have HB : Hid (bytesT es = (encT es, 0)) := hb
      have HF : Hid (∀ e ∈ es, faultE e = 0) := hf
      clear hb hf
      go_enter Try.func5, Try.ntmps5
      go_wp2_with (first
        | (go_at_call_of 22 (Value.slice none 0 0); refine (bytes_nil _).mono ?_; rintro e w' ⟨rfl, hx1⟩)
        | (go_at_call 18; refine (light_any ao cap es 8 _ (by omega) hl (hes.ext hx1)).mono ?_; rw [HL.out]; rintro e w' ⟨rfl, rfl⟩)
        | (go_at_call_of 22 (Value.slice ao es.length cap); refine (bytes_ok ao cap es _ (by omega) (hes.ext hx1) HB.out).mono ?_; rintro e w' ⟨rfl, hx2⟩))
      have hx3 := hx1.trans hx2
      obtain ⟨M, hM⟩ : ∃ M : Nat, n % 64 = (M : Int) := ⟨(n % 64).toNat, by omega⟩
      have hM2 : M < 64 := by omega
      have h63 : bits .and .i64 n 63 = (M : Int) := by rw [i64_and63, hM]
      have hlen : (encT es).length ≤ 64 := by
        have := HB.out; unfold bytesT at this
        split at this
        · simp [encT] at this
        · split at this
          · simp [encT] at this
          · omega
      clear hM hx2 hx1
      go_loop [5, 7] (fun t i => ∃ (k : Nat), k ≤ M ∧ i = .int .i64 k ∧ t = .string (txt (encT es ++ List.replicate k 0))) (fun _ i => M - (intOf i).toNat)
      case atStart => exact ⟨0, Nat.zero_le _, rfl, by simp⟩
      case round =>
        obtain ⟨k, hk, rfl, rfl⟩ := hrel
        have HS : Hid (txt (encT es ++ List.replicate k 0) ++ ⟨#[0]⟩ = txt (encT es ++ List.replicate (k + 1) 0)) := txt_snoc _ _
        have hsz : (txt (encT es ++ List.replicate k 0)).size = (encT es).length + k := by rw [Lib.size_eq]; simp [txt]
        have HP : Hid (parseT (txt (encT es ++ List.replicate k 0)) = some es) := parse_encT es k HF.out (by omega)
        generalize htx : txt (encT es ++ List.replicate k 0) = T at *
        clear htx
        by_cases hlt : k < M
        · go_wp2
          go_round
          case rel => exact ⟨k + 1, by omega, by go_num, by rw [← HS.out]⟩
          case measure => simp [intOf]; omega
        · go_wp2_with (go_at_call 24; refine (parse_ok T _ es (by omega) HP.out).mono ?_; rintro e w4 ⟨ao2, cap2, rfl, he2, hx4⟩)
          go_wp2_with (go_at_call 26; refine (sameEntries_eq ao2 ao cap2 cap es _ (by omega) he2 (hes.ext (hx3.trans hx4))).mono ?_; rintro e w5 ⟨rfl, q, rfl⟩)
          go_ret
          exact ⟨rfl, (hx3.trans hx4).drewN q⟩
    · have HB : Hid (bytesT es = ([], m)) := hb
      clear hb
      go_enter Try.func5, Try.ntmps5
      go_wp2_with (first
        | (go_at_call_of 22 (Value.slice none 0 0); refine (bytes_nil _).mono ?_; rintro e w' ⟨rfl, hx1⟩)
        | (go_at_call 18; refine (light_any ao cap es 8 _ (by omega) hl (hes.ext hx1)).mono ?_; rw [HL.out]; rintro e w' ⟨rfl, rfl⟩)
        | (go_at_call_of 22 (Value.slice ao es.length cap); refine (bytes_bad ao cap es _ (by omega) (hes.ext hx1) m hm HB.out).mono ?_; rintro e w' ⟨rfl, hx2⟩))
      go_ret
      exact ⟨rfl, hx1.trans hx2⟩

end Go.Proofs.Ytpldeejagomfjaa
