/- Lists of entries in memory: LightEntries, SameEntries. -/
import Derived.Test.YtccdpoihhljlcaaEntA
namespace Go.Proofs.Ytccdpoihhljlcaa
open Go.RowKit

structure Ent where
  key : ByteArray
  val : ByteArray
  gone : Bool

/-- In world w the slice at 'ao' holds the entries 'es'. -/
def EntsAt (w : World) (ao : Option Addr) (es : List Ent) : Prop :=
  es ≠ [] → ∃ b off, ao = some ⟨b, off, none⟩ ∧ ∀ i e, es[i]? = some e →
    w.cell? ⟨b, off + i * 3, none⟩ = some (.string e.key) ∧ w.cell? ⟨b, off + i * 3 + 1, none⟩ = some (.string e.val) ∧ w.cell? ⟨b, off + i * 3 + 2, none⟩ = some (.bool e.gone)

def lightE (e : Ent) : Bool := decide (e.key.size ≤ 20) && decide (e.val.size ≤ 30)
def light (es : List Ent) (most : Nat) : Bool := decide (es.length ≤ most) && es.all lightE

theorem EntsAt.get {w : World} {ao : Option Addr} {es : List Ent} (h : EntsAt w ao es) {k : Nat} (hk : k < es.length) :
    ∃ b off key val gone, ao = some ⟨b, off, none⟩ ∧ es[k]? = some ⟨key, val, gone⟩ ∧ w.cell? ⟨b, off + k * 3, none⟩ = some (.string key) ∧ w.cell? ⟨b, off + k * 3 + 1, none⟩ = some (.string val) ∧ w.cell? ⟨b, off + k * 3 + 2, none⟩ = some (.bool gone) := by
  obtain ⟨b, off, rfl, hc⟩ := h (by intro e; subst e; simp at hk)
  have he : es[k]? = some es[k] := List.getElem?_eq_getElem hk
  exact ⟨b, off, es[k].key, es[k].val, es[k].gone, rfl, he, hc k _ he⟩

def lightTo (es : List Ent) (k : Nat) : Prop := (es.take k).all lightE = true
theorem take_all_succ {es : List Ent} {k : Nat} {e : Ent} (he : es[k]? = some e) : (es.take (k + 1)).all lightE = ((es.take k).all lightE && lightE e) := by
  rw [List.take_add_one, he]; simp

theorem light_stop {es : List Ent} {k : Nat} {e : Ent} {most : Nat} (he : es[k]? = some e) (h : lightE e = false) : light es most = false := by
  have hm : e ∈ es := List.mem_of_getElem? he
  unfold light
  have : es.all lightE = false := by
    rw [List.all_eq_false]
    exact ⟨e, hm, by simp [h]⟩
  simp [this]

set_option maxHeartbeats 400000 in
theorem light_any (ao : Option Addr) (cap : Nat) (es : List Ent) (most : Nat) (w : World) (hm : most ≤ 1000) (hl : es.length ≤ 9223372036854775807) (hes : EntsAt w ao es) :
    Calls Try.prog 9 #[.slice ao es.length cap, .int .i64 most] w fun e w' => e = .returned (.bool (light es most)) ∧ w' = w := by
  by_cases hmost : es.length ≤ most
  · go_enter Try.func9, Try.ntmps9
    go_wp2
    go_loop [5] (fun i => ∃ k : Nat, k ≤ es.length ∧ i = .int .i64 k ∧ lightTo es k) (fun i => es.length - (intOf i).toNat)
    case atStart => exact ⟨0, Nat.zero_le _, rfl, by simp [lightTo]⟩
    case round =>
      obtain ⟨k, hk, rfl, hall⟩ := hrel
      by_cases hlt : k < es.length
      · obtain ⟨b, off, key, val, gone, rfl, he, h1, h2, h3⟩ := hes.get hlt
        have HE : Hid (es[k]? = some (⟨key, val, gone⟩ : Ent)) := he
        have HA : Hid (lightTo es k) := hall
        clear he hall hes
        rcases (show (key.size ≤ 20 ∧ val.size ≤ 30) ∨ 20 < key.size ∨ (key.size ≤ 20 ∧ 30 < val.size) by omega) with ⟨ha, hb⟩ | ha | ⟨ha, hb⟩
        · go_wp2
          go_round
          case rel => exact ⟨k + 1, by omega, by go_num, by have := HA.out; unfold lightTo at *; rw [take_all_succ HE.out, this]; simp [lightE, ha, hb]⟩
          case measure => simp [intOf]; omega
        · go_wp2
          go_ret
          exact ⟨ret_of (by rw [light_stop HE.out (by simp [lightE]; omega)]; rfl), rfl⟩
        · go_wp2
          go_ret
          exact ⟨ret_of (by rw [light_stop HE.out (by simp [lightE]; omega)]; rfl), rfl⟩
      · have HA : Hid (lightTo es k) := hall
        clear hes hall
        go_wp2
        go_ret
        refine ⟨ret_of ?_, rfl⟩
        have := HA.out
        unfold lightTo at this
        rw [List.take_of_length_le (by omega)] at this
        simp [light, this, hmost]
  · clear hes
    go_enter Try.func9, Try.ntmps9
    go_wp2
    go_ret
    exact ⟨ret_of (by simp [light, hmost]), rfl⟩

/-- Two entries are one. -/
def sameE (a b : Ent) : Bool := a.key.toList == b.key.toList && a.val.toList == b.val.toList && a.gone == b.gone
set_option maxHeartbeats 400000 in
theorem sameEntries_ne (ao bo : Option Addr) (ca cb : Nat) (n m : Nat) (w : World) (h : ¬ n = m) :
    Calls Try.prog 17 #[.slice ao n ca, .slice bo m cb] w fun e w' => e = .returned (.bool false) ∧ w' = w := by
  have h' : ((n : Int) != (m : Int)) = true := by simp; omega
  go_enter Try.func17, Try.ntmps17
  go_wp2
  go_ret
  exact ⟨rfl, rfl⟩

set_option maxHeartbeats 800000 in
theorem sameEntries_eq (ao bo : Option Addr) (ca cb : Nat) (es : List Ent) (w : World) (hl : es.length ≤ 9223372036854775807) (ha : EntsAt w ao es) (hb : EntsAt w bo es) :
    Calls Try.prog 17 #[.slice ao es.length ca, .slice bo es.length cb] w fun e w' => e = .returned (.bool true) ∧ ∃ q, w' = w.drewN q := by
  go_enter Try.func17, Try.ntmps17
  go_wp2
  go_loopw [5] (fun i w' => ∃ k q : Nat, k ≤ es.length ∧ i = .int .i64 k ∧ w' = w.drewN q) (fun i _ => es.length - (intOf i).toNat)
  case atStart => exact ⟨0, 0, Nat.zero_le _, rfl, rfl⟩
  case round =>
    obtain ⟨k, q, hk, rfl, rfl⟩ := hrel
    by_cases hlt : k < es.length
    · obtain ⟨b, off, key, val, gone, rfl, he, h1, h2, h3⟩ := ha.get hlt
      obtain ⟨b', off', key', val', gone', rfl, he', g1, g2, g3⟩ := hb.get hlt
      obtain ⟨rfl, rfl, rfl⟩ : key = key' ∧ val = val' ∧ gone = gone' := by
        rw [he] at he'; simpa using he'
      clear he he' ha hb
      go_wp2
      go_quiet (fail)
      go_wp2
      go_roundw
      case rel => exact ⟨k + 1, _, by omega, by go_num, rfl⟩
      case measure => simp [intOf]; omega
    · clear ha hb
      go_wp2
      go_ret
      exact ⟨rfl, _, rfl⟩

end Go.Proofs.Ytccdpoihhljlcaa
