
/- rising. -/
import Derived.Test.YtpldeejagomfjaaLstM
namespace Go.Proofs.Ytpldeejagomfjaa
open Go.RowKit

theorem ris_snoc {es : List Ent} {k : Nat} {a b : Ent} (h : Ris (es.take (k + 1))) (ha : es[k]? = some a) (hb : es[k + 1]? = some b) (hlt : Lt a.key b.key) : Ris (es.take (k + 1 + 1)) := by
  rw [take_snocE hb]
  refine List.pairwise_append.2 ⟨h, by simp, fun x hx y hy => ?_⟩
  simp at hy; subst hy
  rw [take_snocE ha] at hx h
  rcases List.mem_append.1 hx with hx | hx
  · exact ((List.pairwise_append.1 h).2.2 x hx a (by simp)).trans hlt
  · simp at hx; subst hx; exact hlt
theorem ris_one (es : List Ent) : Ris (es.take (0 + 1)) := by
  cases es <;> simp [Ris]
theorem not_leq {a b : ByteArray} (h : (Op.bytesLess a.toList b.toList || a.toList == b.toList) = false) : Lt b a := by
  rw [Bool.or_eq_false_iff] at h
  rcases Lt.tri a b with h1 | h1 | h1
  · unfold Lt at h1; rw [h.1] at h1; simp at h1
  · subst h1; simp at h
  · exact h1

set_option maxHeartbeats 2000000 in
theorem rising_any (ao : Option Addr) (cap : Nat) (es : List Ent) (w : World) (hl : es.length ≤ 9223372036854775807) (hes : EntsAt w ao es) :
    Calls Try.prog 79 #[.slice ao es.length cap] w fun e w' => (∃ b, e = .returned (.bool b) ∧ (b = true → light es 20 = true ∧ Ris es)) ∧ ∃ q, w' = w.drewN q := by
  cases hli : light es 20 with
  | false =>
    have HL : Hid (light es 20 = false) := hli
    clear hli
    go_enter Try.func79, Try.ntmps79
    go_wp2_with (go_at_call 18; refine (light_any ao cap es 20 _ (by omega) hl hes).mono ?_; rw [HL.out]; rintro e w' ⟨rfl, rfl⟩)
    go_ret
    exact ⟨⟨_, rfl, by simp⟩, 0, rfl⟩
  | true =>
    have HL : Hid (light es 20 = true) := hli
    have hlm : es.length ≤ 20 := by unfold light at hli; simp at hli; exact hli.1
    clear hli
    go_enter Try.func79, Try.ntmps79
    go_wp2_with (go_at_call 18; refine (light_any ao cap es 20 _ (by omega) hl hes).mono ?_; rw [HL.out]; rintro e w0 ⟨rfl, rfl⟩)
    go_loopw [3] (fun i wr => ∃ k q : Nat, k ≤ es.length ∧ i = .int .i64 ((k + 1 : Nat) : Int) ∧ Ris (es.take (k + 1)) ∧ wr = w0.drewN q) (fun i _ => es.length + 1 - (intOf i).toNat)
    case atStart => exact ⟨0, 0, Nat.zero_le _, rfl, ris_one es, rfl⟩
    case round =>
      obtain ⟨k, q, hk, rfl, hris, rfl⟩ := hrel
      have HR : Hid (Ris (es.take (k + 1))) := hris
      clear hris
      by_cases hlt : k + 1 < es.length
      · obtain ⟨b, off, ek, ev, eg, rfl, he, h1, h2, h3⟩ := hes.get (show k < es.length by omega)
        obtain ⟨b', off', fk, fv, fg, hbb, hf, g1, g2, g3⟩ := hes.get hlt
        obtain ⟨rfl, rfl⟩ : b' = b ∧ off' = off := by simp at hbb; exact ⟨hbb.1.symm, hbb.2.symm⟩
        have HE : Hid (es[k]? = some (⟨ek, ev, eg⟩ : Ent)) := he
        have HF : Hid (es[k + 1]? = some (⟨fk, fv, fg⟩ : Ent)) := hf
        have hd : ((k : Int) + 1 - 1) = (k : Int) := by omega
        clear he hf hes hbb h2 h3 g2 g3
        cases hc : (Op.bytesLess fk.toList ek.toList || fk.toList == ek.toList) with
        | true =>
          go_wp2
          go_quiet (fail)
          go_wp2
          go_ret
          exact ⟨⟨_, rfl, by simp⟩, q + nq, by simp⟩
        | false =>
          have HC : Hid (Lt ek fk) := not_leq hc
          go_wp2
          go_quiet (fail)
          go_wp2
          go_roundw
          case rel => exact ⟨k + 1, _, by omega, by go_num, ris_snoc HR.out HE.out HF.out HC.out, rfl⟩
          case measure => simp [intOf]; omega
      · have HE : Hid (Ris es) := by have := HR.out; rwa [List.take_of_length_le (by omega)] at this
        clear hes
        go_wp2
        go_ret
        exact ⟨⟨_, rfl, fun _ => ⟨by first | exact HL.out | trivial, HE.out⟩⟩, _, rfl⟩
end Go.Proofs.Ytpldeejagomfjaa
