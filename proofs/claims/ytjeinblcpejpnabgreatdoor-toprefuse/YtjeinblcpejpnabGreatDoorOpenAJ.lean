/- ActA OpenA. -/
import Derived.Test.YtjeinblcpejpnabGreatDoorEntLJ
import Derived.Test.YtjeinblcpejpnabGreatDoorOpenEJ

/- Acts in memory: LightActs. -/
namespace Go.Proofs.YtjeinblcpejpnabGreatDoor
open Go.RowKit

structure ActE where
  kind : ByteArray
  s : ByteArray
  a : Int
  b : Int
  es : List Ent
  ao : Option Addr
  cap : Nat
/-- What an act may be. -/
structure ActOk (w : World) (e : ActE) : Prop where
  ents : EntsAt w e.ao e.es
  len : e.es.length ≤ 9223372036854775807
  sz : e.s.size ≤ 9223372036854775807
  a0 : -9223372036854775808 ≤ e.a
  a1 : e.a ≤ 9223372036854775807
/-- In world w the slice at 'ao' holds the acts 'acs'. -/
def ActsAt (w : World) (ao : Option Addr) (acs : List ActE) : Prop :=
  acs ≠ [] → ∃ b off, ao = some ⟨b, off, none⟩ ∧ ∀ i e, acs[i]? = some e →
    w.cell? ⟨b, off + i * 5, none⟩ = some (.string e.kind) ∧ w.cell? ⟨b, off + i * 5 + 1, none⟩ = some (.string e.s) ∧ w.cell? ⟨b, off + i * 5 + 2, none⟩ = some (.int .i64 e.a) ∧ w.cell? ⟨b, off + i * 5 + 3, none⟩ = some (.int .i64 e.b) ∧
      w.cell? ⟨b, off + i * 5 + 4, none⟩ = some (.slice e.ao e.es.length e.cap) ∧ ActOk w e
theorem ActsAt.get {w : World} {ao : Option Addr} {acs : List ActE} (h : ActsAt w ao acs) {k : Nat} (hk : k < acs.length) :
    ∃ b off e, ao = some ⟨b, off, none⟩ ∧ acs[k]? = some e ∧ w.cell? ⟨b, off + k * 5, none⟩ = some (.string e.kind) ∧ w.cell? ⟨b, off + k * 5 + 1, none⟩ = some (.string e.s) ∧ w.cell? ⟨b, off + k * 5 + 2, none⟩ = some (.int .i64 e.a) ∧ w.cell? ⟨b, off + k * 5 + 3, none⟩ = some (.int .i64 e.b) ∧
      w.cell? ⟨b, off + k * 5 + 4, none⟩ = some (.slice e.ao e.es.length e.cap) ∧ ActOk w e := by
  obtain ⟨b, off, rfl, hc⟩ := h (by intro e; subst e; simp at hk)
  have he : acs[k]? = some acs[k] := List.getElem?_eq_getElem hk
  exact ⟨b, off, acs[k], rfl, he, hc k _ he⟩
theorem EntsAt.ext2 {w w' : World} {ao : Option Addr} {es : List Ent} (h : EntsAt w ao es) (hx : Ext w w') : EntsAt w' ao es := by
  intro hne
  obtain ⟨b, off, rfl, hc⟩ := h hne
  exact ⟨b, off, rfl, fun i e he => ⟨hx.cell (hc i e he).1, hx.cell (hc i e he).2.1, hx.cell (hc i e he).2.2⟩⟩
theorem ActOk.ext {w w' : World} {e : ActE} (h : ActOk w e) (hx : Ext w w') : ActOk w' e := ⟨h.ents.ext2 hx, h.len, h.sz, h.a0, h.a1⟩
theorem ActsAt.ext {w w' : World} {ao : Option Addr} {acs : List ActE} (h : ActsAt w ao acs) (hx : Ext w w') : ActsAt w' ao acs := by
  intro hne
  obtain ⟨b, off, rfl, hc⟩ := h hne
  refine ⟨b, off, rfl, fun i e he => ?_⟩
  obtain ⟨c0, c1, c2, c3, c4, c5⟩ := hc i e he
  exact ⟨hx.cell c0, hx.cell c1, hx.cell c2, hx.cell c3, hx.cell c4, c5.ext hx⟩

def lightA (e : ActE) : Bool := decide (e.s.size ≤ 100) && light e.es 6
def lightActs (acs : List ActE) (most : Nat) : Bool := decide (acs.length ≤ most) && acs.all lightA
def lightATo (acs : List ActE) (k : Nat) : Prop := (acs.take k).all lightA = true
theorem lightATo_succ {acs : List ActE} {k : Nat} {e : ActE} (he : acs[k]? = some e) (h : lightATo acs k) (h1 : lightA e = true) : lightATo acs (k + 1) := by
  unfold lightATo at *
  rw [List.take_add_one, he]; simp [h, h1]
theorem lightActs_stop {acs : List ActE} {k : Nat} {e : ActE} {most : Nat} (he : acs[k]? = some e) (h : lightA e = false) : lightActs acs most = false := by
  have hm : e ∈ acs := List.mem_of_getElem? he
  unfold lightActs
  have : acs.all lightA = false := by
    rw [List.all_eq_false]
    exact ⟨e, hm, by simp [h]⟩
  simp [this]

set_option maxHeartbeats 1000000 in
theorem lightActs_any (ao : Option Addr) (cap : Nat) (acs : List ActE) (most : Nat) (w : World) (hm : most ≤ 1000) (hl : acs.length ≤ 9223372036854775807) (has : ActsAt w ao acs) :
    Calls Tryz.prog 9 #[.slice ao acs.length cap, .int .i64 most] w fun e w' => e = .returned (.bool (lightActs acs most)) ∧ w' = w := by
  by_cases hmost : acs.length ≤ most
  · have hd : decide (most < acs.length) = false := by simp; omega
    go_enter Tryz.func9, Tryz.ntmps9
    go_wp2_with fail
    go_loop [5] (fun i => ∃ k : Nat, k ≤ acs.length ∧ i = .int .i64 k ∧ lightATo acs k) (fun i => acs.length - (intOf i).toNat)
    case atStart => exact ⟨0, Nat.zero_le _, rfl, by simp [lightATo]⟩
    case round =>
      obtain ⟨k, hk, rfl, hall⟩ := hrel
      have HA : Hid (lightATo acs k) := hall
      clear hall
      by_cases hlt : k < acs.length
      · obtain ⟨b, off, e, rfl, he, c0, c1, c2, c3, c4, c5⟩ := has.get hlt
        have HE : Hid (acs[k]? = some e) := he
        clear he has c0 c2 c3
        by_cases hs : e.s.size ≤ 100
        · have hd2 : decide ((100 : Int) < (e.s.size : Int)) = false := by simp; omega
          cases hli : light e.es 6 with
          | true =>
            have HL : Hid (light e.es 6 = true) := hli
            clear hli
            go_wp2_with (go_at_call 30; refine (light_any e.ao e.cap e.es 6 _ (by omega) c5.len c5.ents).mono ?_; rw [HL.out]; rintro e' w' ⟨rfl, rfl⟩)
            go_round
            case rel => exact ⟨k + 1, by omega, by go_num, lightATo_succ HE.out HA.out (by simp [lightA, hs, HL.out])⟩
            case measure => simp [intOf]; omega
          | false =>
            have HL : Hid (light e.es 6 = false) := hli
            clear hli
            go_wp2_with (go_at_call 30; refine (light_any e.ao e.cap e.es 6 _ (by omega) c5.len c5.ents).mono ?_; rw [HL.out]; rintro e' w' ⟨rfl, rfl⟩)
            go_ret
            exact ⟨ret_of (by rw [lightActs_stop HE.out (by simp [lightA, HL.out])]; rfl), rfl⟩
        · have hs' : (100 : Int) < (e.s.size : Int) := by omega
          go_wp2_with fail
          go_ret
          exact ⟨ret_of (by rw [lightActs_stop HE.out (by simp [lightA]; omega)]; rfl), rfl⟩
      · clear has
        go_wp2_with fail
        go_ret
        refine ⟨ret_of ?_, rfl⟩
        have := HA.out
        unfold lightATo at this
        rw [List.take_of_length_le (by omega)] at this
        simp [lightActs, this, hmost]
  · clear has
    go_enter Tryz.func9, Tryz.ntmps9
    go_wp2_with fail
    go_ret
    exact ⟨ret_of (by simp [lightActs, hmost]), rfl⟩

end Go.Proofs.YtjeinblcpejpnabGreatDoor

/- Acts that came in, opened. -/
namespace Go.Proofs.YtjeinblcpejpnabGreatDoor
open Go.ChangeShapes Go.WideShapes Go.ChangeAt Go.RowKit Go.Deep
open Go.ChangeMaps (open_string shut_string)

theorem Tryz.cells41 : Tryz.prog.cellsOf 41 = 5 := by kernel_rfl
theorem Tryz.cells3 : Tryz.prog.cellsOf 3 = 1 := by kernel_rfl
theorem Tryz.cells37 : Tryz.prog.cellsOf 37 = 1 := by kernel_rfl
instance : Inhabited ActE := ⟨⟨⟨#[]⟩, ⟨#[]⟩, 0, 0, [], none, 0⟩⟩

section
variable {H : Type} {enc : TypeId × Value → H} {w : World} {base : Nat} {spare : Nat → Bool} {held : Bool}

theorem trod_struct5 {P : Program} {t : TypeId} {f0 f1 f2 f3 f4 : Field} {fuel : Nat} {cs : List Value} {x : DataW H × List MemPlace} (ht : P.underlying t = some (.struct #[f0, f1, f2, f3, f4])) (h : DataW.trod enc P w base spare held fuel t cs = some x) :
    ∃ y0 y1 y2 y3 y4 n, cs.length = P.cellsOf t ∧ DataW.trod enc P w base spare held n f0.type ((cs.drop f0.offset).take (P.cellsOf f0.type)) = some y0 ∧
      DataW.trod enc P w base spare held n f1.type ((cs.drop f1.offset).take (P.cellsOf f1.type)) = some y1 ∧ DataW.trod enc P w base spare held n f2.type ((cs.drop f2.offset).take (P.cellsOf f2.type)) = some y2 ∧
      DataW.trod enc P w base spare held n f3.type ((cs.drop f3.offset).take (P.cellsOf f3.type)) = some y3 ∧ DataW.trod enc P w base spare held n f4.type ((cs.drop f4.offset).take (P.cellsOf f4.type)) = some y4 := by
  obtain ⟨xs, n, _, rfl, hl, hlen, hf⟩ := DataW.trod_struct ht h
  match xs, hlen with
  | [y0, y1, y2, y3, y4], _ => exact ⟨y0, y1, y2, y3, y4, n, hl, by simpa using hf 0 f0 rfl, by simpa using hf 1 f1 rfl, by simpa using hf 2 f2 rfl, by simpa using hf 3 f3 rfl, by simpa using hf 4 f4 rfl⟩

set_option maxRecDepth 100000 in
/-- Five cells that read as an act. -/
theorem open_act {fuel : Nat} {cs : List Value} {x : DataW H × List MemPlace} (h : DataW.trod enc Tryz.prog w base spare held fuel 41 cs = some x) :
    ∃ e : ActE, cs = [.string e.kind, .string e.s, .int .i64 e.a, .int .i64 e.b, .slice e.ao e.es.length e.cap] ∧ ActOk w e := by
  obtain ⟨y0, y1, y2, y3, y4, n, hl, h0, h1, h2, h3, h4⟩ := trod_struct5 Tryz.underlying41 h
  rw [Tryz.cells41] at hl
  match cs, hl with
  | [c0, c1, c2, c3, c4], _ =>
    simp only [Tryz.cells9, Tryz.cells3, Tryz.cells37, List.drop_zero, List.drop_succ_cons, List.take_succ_cons, List.take_zero] at h0 h1 h2 h3 h4
    obtain ⟨k, hk, _, _⟩ := DataW.trod_string Tryz.underlying9 h0
    obtain ⟨s, hs, _, hsz⟩ := DataW.trod_string Tryz.underlying9 h1
    obtain ⟨a, ha, _, haw⟩ := DataW.trod_int Tryz.underlying3 h2
    obtain ⟨b, hb, _, hbw⟩ := DataW.trod_int Tryz.underlying3 h3
    obtain ⟨ao, cap, es, hv, he, hel⟩ := open_ents h4
    simp at hk hs ha hb hv
    subst hk hs ha hb hv
    refine ⟨⟨k, s, a, b, es, ao, cap⟩, rfl, ⟨he, hel, ?_, ?_, ?_⟩⟩
    · unfold maxLen at hsz; omega
    · simp [Lit.wf, IntKind.min, IntKind.max, IntKind.signed, IntKind.bits] at haw; dsimp only; omega
    · simp [Lit.wf, IntKind.min, IntKind.max, IntKind.signed, IntKind.bits] at haw; dsimp only; omega

set_option maxRecDepth 100000 in
theorem open_acts {fuel : Nat} {cs : List Value} {x : DataW H × List MemPlace} (h : DataW.trod enc Tryz.prog w base spare held fuel 22 cs = some x) :
    ∃ ao cap, ∃ acs : List ActE, cs = [.slice ao acs.length cap] ∧ ActsAt w ao acs ∧ acs.length ≤ 9223372036854775807 := by
  rcases open_slice Tryz.underlying22 h with ⟨rfl, _⟩ | ⟨a, len, cap, m, n, D, Pl, rfl, _, hl, hm, hmm, _, hx⟩
  · exact ⟨none, 0, [], rfl, fun h => absurd rfl h, by simp⟩
  · rw [Tryz.cells41] at hx
    have hlm : len ≤ m := by rw [hmm]; split <;> omega
    have each : ∀ i, i < len → ∃ e : ActE, w.cell? (a.add (i * 5)) = some (.string e.kind) ∧ w.cell? ((a.add (i * 5)).add 1) = some (.string e.s) ∧ w.cell? ((a.add (i * 5)).add 2) = some (.int .i64 e.a) ∧
        w.cell? ((a.add (i * 5)).add 3) = some (.int .i64 e.b) ∧ w.cell? ((a.add (i * 5)).add 4) = some (.slice e.ao e.es.length e.cap) ∧ ActOk w e := by
      intro i hi
      obtain ⟨cs', h1, h2⟩ := hx i (by omega)
      obtain ⟨e, rfl, hok⟩ := open_act h2
      obtain ⟨_, _, hc⟩ := World.cells?_some h1
      have a0 : (a.add (i * 5)).add 0 = a.add (i * 5) := by unfold Addr.add; simp
      exact ⟨e, by have := hc 0 (by omega); rw [a0] at this; simpa using this, by simpa using hc 1 (by omega), by simpa using hc 2 (by omega), by simpa using hc 3 (by omega), by simpa using hc 4 (by omega), hok⟩
    obtain ⟨E, hE⟩ := choose_lt each
    refine ⟨some a, cap, (List.range len).map E, by simp, ?_, by simp; unfold maxLen at hm; omega⟩
    intro hne
    have hlen : 0 < len := by
      rcases Nat.eq_zero_or_pos len with h0 | h0
      · subst h0; simp at hne
      · exact h0
    obtain ⟨b, off, spot⟩ := a
    have hs0 := (hE 0 hlen).1
    have hspot : spot = none := by simpa [Addr.add] using World.cell?_spot hs0
    subst hspot
    refine ⟨b, off, rfl, fun i e he => ?_⟩
    have hi : i < len := by
      rcases Nat.lt_or_ge i len with h1 | h1
      · exact h1
      · simp [List.getElem?_eq_none (show ((List.range len).map E).length ≤ i by simpa using h1)] at he
    have he' : e = E i := by simp [hi] at he; exact he.symm
    subst he'
    have := hE i hi
    simpa only [add_plain] using this
end
end Go.Proofs.YtjeinblcpejpnabGreatDoor
