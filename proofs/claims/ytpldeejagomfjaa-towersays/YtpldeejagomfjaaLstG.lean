
/- What rising, Get, Put and Live answer. -/
import Derived.Test.YtpldeejagomfjaaLstM
import Derived.Deep.RegionHeld3
namespace Go.Proofs.Ytpldeejagomfjaa
open Go.RowKit

theorem Try.results54 : Try.f54.results = #[.cell 4 30, .tmp 5] := by kernel_rfl
/-- An entry as a value, or a blank one. -/
def noEnt : Ent := ⟨⟨#[]⟩, ⟨#[]⟩, false⟩
def gotV (o : Option Ent) : Value := .tuple #[entV (o.getD noEnt), .bool o.isSome]

theorem getE_step {es : List Ent} {k : Nat} {e : Ent} {key : ByteArray} (he : es[k]? = some e) (h : getE (es.take k) key = none) : getE (es.take (k + 1)) key = if e.key = key then some e else none := by
  rw [take_snocE he]
  unfold getE at *
  rw [List.find?_append, h, List.find?_cons]
  by_cases hk : e.key = key <;> simp [hk]
theorem getE_stop {es : List Ent} {k : Nat} {e : Ent} {key : ByteArray} (he : es[k]? = some e) (h : getE (es.take k) key = none) (hk : e.key = key) : getE es key = some e := by
  have h1 := getE_step he h
  rw [if_pos hk] at h1
  have h2 : es = es.take (k + 1) ++ es.drop (k + 1) := (List.take_append_drop _ _).symm
  rw [h2]
  unfold getE at *
  rw [List.find?_append, h1]; rfl

set_option maxHeartbeats 1000000 in
theorem refGet_any (ao : Option Addr) (cap : Nat) (es : List Ent) (key : ByteArray) (w : World) (hl : es.length ≤ 9223372036854775807) (hes : EntsAt w ao es) :
    Calls Try.prog 54 #[.slice ao es.length cap, .string key] w fun e w' => e = .returned (gotV (getE es key)) ∧ Ext w w' := by
  go_enter Try.func54, Try.ntmps54
  go_wp2
  go_loop [6] (fun i => ∃ k : Nat, k ≤ es.length ∧ i = .int .i64 k ∧ getE (es.take k) key = none) (fun i => es.length - (intOf i).toNat)
  case atStart => exact ⟨0, Nat.zero_le _, rfl, rfl⟩
  case round =>
    obtain ⟨k, hk, rfl, hnone⟩ := hrel
    have HN : Hid (getE (es.take k) key = none) := hnone
    clear hnone
    by_cases hlt : k < es.length
    · obtain ⟨b, off, ek, ev, eg, rfl, he, h1, h2, h3⟩ := hes.get hlt
      have HE : Hid (es[k]? = some (⟨ek, ev, eg⟩ : Ent)) := he
      have hx0 : Ext w (w.alloc (.cells #[.string ⟨#[]⟩, .string ⟨#[]⟩, .bool false] 30)) := (Ext.refl _).alloc _
      have hbl : b ≠ w.heap.size := by
        rcases Nat.lt_or_ge b w.heap.size with h' | h'
        · omega
        · simp [World.cell?, Array.getElem?_eq_none h'] at h1
      have g1 := hx0.cell h1
      have g2 := hx0.cell h2
      have g3 := hx0.cell h3
      clear h1 h2 h3 he hes
      by_cases hkk : ek = key
      · subst hkk
        go_wp2
        have hg := getE_stop HE.out HN.out rfl
        rw [hg]
        refine bodyPost_ret (v := .tuple #[.agg #[.string ek, .string ev, .bool eg], .bool true]) (by simp [results, go_sem]) rfl ⟨rfl, (Ext.refl _).alloc _⟩
      · have hbe : (ek.toList == key.toList) = false := beq_ne hkk
        have HK : Hid (¬ ek = key) := hkk
        clear hkk
        go_wp2
        go_round
        case rel => exact ⟨k + 1, by omega, by go_num, by rw [getE_step HE.out HN.out, if_neg HK.out]⟩
        case measure => simp [intOf]; omega
    · have hg : getE es key = none := by have := HN.out; rwa [List.take_of_length_le (by omega)] at this
      have HG : Hid (getE es key = none) := hg
      clear hg hes
      go_wp2
      rw [HG.out]
      refine bodyPost_ret (v := .tuple #[.agg #[.string ⟨#[]⟩, .string ⟨#[]⟩, .bool false], .bool false]) (by simp [results, go_sem]) rfl ⟨rfl, (Ext.refl _).alloc _⟩
end Go.Proofs.Ytpldeejagomfjaa
