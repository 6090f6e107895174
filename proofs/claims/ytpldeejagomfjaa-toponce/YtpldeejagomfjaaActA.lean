
/- Acts in memory: LightActs. -/
import Derived.Test.YtpldeejagomfjaaEntL
import Derived.Test.YtpldeejagomfjaaWld
namespace Go.Proofs.Ytpldeejagomfjaa
open Go.RowKit

structure ActE where
  kind : ByteArray
  s : ByteArray
  a : Int
  b : Int
  es : List Ent
  ao : Option Addr
  cap : Nat
/-- What an act may be. -/
structure ActOk (w : World) (e : ActE) : Prop where
  ents : EntsAt w e.ao e.es
  len : e.es.length ≤ 9223372036854775807
  sz : e.s.size ≤ 9223372036854775807
  a0 : -9223372036854775808 ≤ e.a
  a1 : e.a ≤ 9223372036854775807
/-- In world w the slice at 'ao' holds the acts 'acs'. -/
def ActsAt (w : World) (ao : Option Addr) (acs : List ActE) : Prop :=
  acs ≠ [] → ∃ b off, ao = some ⟨b, off, none⟩ ∧ ∀ i e, acs[i]? = some e →
    w.cell? ⟨b, off + i * 5, none⟩ = some (.string e.kind) ∧ w.cell? ⟨b, off + i * 5 + 1, none⟩ = some (.string e.s) ∧ w.cell? ⟨b, off + i * 5 + 2, none⟩ = some (.int .i64 e.a) ∧ w.cell? ⟨b, off + i * 5 + 3, none⟩ = some (.int .i64 e.b) ∧
      w.cell? ⟨b, off + i * 5 + 4, none⟩ = some (.slice e.ao e.es.length e.cap) ∧ ActOk w e
theorem ActsAt.get {w : World} {ao : Option Addr} {acs : List ActE} (h : ActsAt w ao acs) {k : Nat} (hk : k < acs.length) :
    ∃ b off e, ao = some ⟨b, off, none⟩ ∧ acs[k]? = some e ∧ w.cell? ⟨b, off + k * 5, none⟩ = some (.string e.kind) ∧ w.cell? ⟨b, off + k * 5 + 1, none⟩ = some (.string e.s) ∧ w.cell? ⟨b, off + k * 5 + 2, none⟩ = some (.int .i64 e.a) ∧ w.cell? ⟨b, off + k * 5 + 3, none⟩ = some (.int .i64 e.b) ∧
      w.cell? ⟨b, off + k * 5 + 4, none⟩ = some (.slice e.ao e.es.length e.cap) ∧ ActOk w e := by
  obtain ⟨b, off, rfl, hc⟩ := h (by intro e; subst e; simp at hk)
  have he : acs[k]? = some acs[k] := List.getElem?_eq_getElem hk
  exact ⟨b, off, acs[k], rfl, he, hc k _ he⟩
theorem EntsAt.ext2 {w w' : World} {ao : Option Addr} {es : List Ent} (h : EntsAt w ao es) (hx : Ext w w') : EntsAt w' ao es := by
  intro hne
  obtain ⟨b, off, rfl, hc⟩ := h hne
  exact ⟨b, off, rfl, fun i e he => ⟨hx.cell (hc i e he).1, hx.cell (hc i e he).2.1, hx.cell (hc i e he).2.2⟩⟩
theorem ActOk.ext {w w' : World} {e : ActE} (h : ActOk w e) (hx : Ext w w') : ActOk w' e := ⟨h.ents.ext2 hx, h.len, h.sz, h.a0, h.a1⟩
theorem ActsAt.ext {w w' : World} {ao : Option Addr} {acs : List ActE} (h : ActsAt w ao acs) (hx : Ext w w') : ActsAt w' ao acs := by
  intro hne
  obtain ⟨b, off, rfl, hc⟩ := h hne
  refine ⟨b, off, rfl, fun i e he => ?_⟩
  obtain ⟨c0, c1, c2, c3, c4, c5⟩ := hc i e he
  exact ⟨hx.cell c0, hx.cell c1, hx.cell c2, hx.cell c3, hx.cell c4, c5.ext hx⟩

def lightA (e : ActE) : Bool := decide (e.s.size ≤ 100) && light e.es 6
def lightActs (acs : List ActE) (most : Nat) : Bool := decide (acs.length ≤ most) && acs.all lightA
def lightATo (acs : List ActE) (k : Nat) : Prop := (acs.take k).all lightA = true
theorem lightATo_succ {acs : List ActE} {k : Nat} {e : ActE} (he : acs[k]? = some e) (h : lightATo acs k) (h1 : lightA e = true) : lightATo acs (k + 1) := by
  unfold lightATo at *
  rw [List.take_add_one, he]; simp [h, h1]
theorem lightActs_stop {acs : List ActE} {k : Nat} {e : ActE} {most : Nat} (he : acs[k]? = some e) (h : lightA e = false) : lightActs acs most = false := by
  have hm : e ∈ acs := List.mem_of_getElem? he
  unfold lightActs
  have : acs.all lightA = false := by
    rw [List.all_eq_false]
    exact ⟨e, hm, by simp [h]⟩
  simp [this]

set_option maxHeartbeats 1000000 in
theorem lightActs_any (ao : Option Addr) (cap : Nat) (acs : List ActE) (most : Nat) (w : World) (hm : most ≤ 1000) (hl : acs.length ≤ 9223372036854775807) (has : ActsAt w ao acs) :
    Calls Try.prog 28 #[.slice ao acs.length cap, .int .i64 most] w fun e w' => e = .returned (.bool (lightActs acs most)) ∧ w' = w := by
  by_cases hmost : acs.length ≤ most
  · have hd : decide (most < acs.length) = false := by simp; omega
    go_enter Try.func28, Try.ntmps28
    go_wp2_with fail
    go_loop [5] (fun i => ∃ k : Nat, k ≤ acs.length ∧ i = .int .i64 k ∧ lightATo acs k) (fun i => acs.length - (intOf i).toNat)
    case atStart => exact ⟨0, Nat.zero_le _, rfl, by simp [lightATo]⟩
    case round =>
      obtain ⟨k, hk, rfl, hall⟩ := hrel
      have HA : Hid (lightATo acs k) := hall
      clear hall
      by_cases hlt : k < acs.length
      · obtain ⟨b, off, e, rfl, he, c0, c1, c2, c3, c4, c5⟩ := has.get hlt
        have HE : Hid (acs[k]? = some e) := he
        clear he has c0 c2 c3
        by_cases hs : e.s.size ≤ 100
        · have hd2 : decide ((100 : Int) < (e.s.size : Int)) = false := by simp; omega
          cases hli : light e.es 6 with
          | true =>
            have HL : Hid (light e.es 6 = true) := hli
            clear hli
            go_wp2_with (go_at_call 18; refine (light_any e.ao e.cap e.es 6 _ (by omega) c5.len c5.ents).mono ?_; rw [HL.out]; rintro e' w' ⟨rfl, rfl⟩)
            go_round
            case rel => exact ⟨k + 1, by omega, by go_num, lightATo_succ HE.out HA.out (by simp [lightA, hs, HL.out])⟩
            case measure => simp [intOf]; omega
          | false =>
            have HL : Hid (light e.es 6 = false) := hli
            clear hli
            go_wp2_with (go_at_call 18; refine (light_any e.ao e.cap e.es 6 _ (by omega) c5.len c5.ents).mono ?_; rw [HL.out]; rintro e' w' ⟨rfl, rfl⟩)
            go_ret
            exact ⟨ret_of (by rw [lightActs_stop HE.out (by simp [lightA, HL.out])]; rfl), rfl⟩
        · have hs' : (100 : Int) < (e.s.size : Int) := by omega
          go_wp2_with fail
          go_ret
          exact ⟨ret_of (by rw [lightActs_stop HE.out (by simp [lightA]; omega)]; rfl), rfl⟩
      · clear has
        go_wp2_with fail
        go_ret
        refine ⟨ret_of ?_, rfl⟩
        have := HA.out
        unfold lightATo at this
        rw [List.take_of_length_le (by omega)] at this
        simp [lightActs, this, hmost]
  · clear has
    go_enter Try.func28, Try.ntmps28
    go_wp2_with fail
    go_ret
    exact ⟨ret_of (by simp [lightActs, hmost]), rfl⟩

end Go.Proofs.Ytpldeejagomfjaa
