/- BtwA. -/
import Derived.Test.YthndopokabceiaaGreatDoorScnBJ
import Derived.Test.YthndopokabceiaaGreatDoorRevJ

/- Rows between two keys: where they begin; a list that is turned round in place. -/
namespace Go.Proofs.YthndopokabceiaaGreatDoor
open Go.RowKit Go.WideShapes

set_option maxRecDepth 20000 in
set_option maxHeartbeats 1000000 in
theorem notBelow_any (ao : Option Addr) (cap : Nat) (es : List Ent) (key : ByteArray) (w : World) (hE : EntsAt w ao es) (hl : es.length ≤ 1000) (hr : Ris es) :
    Calls Tryz.prog 84 #[.slice ao es.length cap, .string key] w fun e w' => ∃ r : Nat, e = .returned (.int .i64 (r : Int)) ∧ From (geK es key) es.length r ∧ Ext w w' := by
  have HS : Hid (∀ W lb kb, Clo W lb kb es key → Calls Tryz.prog 81 #[.int .i64 (es.length : Int), .func (.func 127) #[] #[.pointer (some ⟨lb, 0, none⟩), .pointer (some ⟨kb, 0, none⟩)]] W fun e w' => (∃ r : Nat, e = .returned (.int .i64 (r : Int)) ∧ From (geK es key) es.length r) ∧ Ext W w') := fun W lb kb hc => sBelow_any lb kb es key W hc hl (geK_mono hr key)
  have hx2 : Ext w ((w.alloc (.cells #[.slice ao es.length cap] 37)).alloc (.cells #[.string key] 9)) := ((Ext.refl w).alloc _).alloc _
  have HC : Hid (Clo ((w.alloc (.cells #[.slice ao es.length cap] 37)).alloc (.cells #[.string key] 9)) w.heap.size (w.heap.size + 1) es key) := ⟨⟨ao, cap, (Blk.new _ _ _).alloc _, hE.ext hx2⟩, Blk.new' _ _ _ (by simp)⟩
  have hL2 : ((w.alloc (.cells #[.slice ao es.length cap] 37)).alloc (.cells #[.string key] 9)).cell? ⟨w.heap.size, 0, none⟩ = some (.slice ao es.length cap) := ((Blk.new w #[.slice ao es.length cap] 37).alloc _).cell 0
  clear hE hr
  go_enter Tryz.func84, Tryz.ntmps84
  go_wp2_with (go_at_call 81; refine (HS.out _ _ _ HC.out).mono ?_; rintro e w2 ⟨⟨r, rfl, hF2⟩, hx3⟩)
  go_ret
  exact ⟨r, rfl, hF2, hx2.trans hx3⟩
theorem entCells_one (e : Ent) : ∀ v ∈ entCells e, v.oneCell' = true := fun v hv => by
  simp [entCells] at hv; rcases hv with rfl | rfl | rfl <;> rfl
theorem flat_cell [Inhabited Ent] (es : List Ent) (t : Nat) (ht : t < es.length * 3) : ∃ e, es[t / 3]? = some e ∧ (Go.Sort.flatK entCells 3 es.toArray)[t]! = (entCells e)[t % 3]! := by
  have h3 : t / 3 < es.length := by omega
  refine ⟨es[t / 3], List.getElem?_eq_getElem h3, ?_⟩
  rw [Go.Sort.get_flatK entCells 3 es.toArray t (by simpa using ht)]
  congr 1
  rw [getElem!_pos es.toArray (t / 3) (by simpa using h3)]
  simp
theorem ents_holds [Inhabited Ent] {w : World} {b off : Nat} {es : List Ent} (h : EntsAt w (some ⟨b, off, none⟩) es) (hf : ∀ i, w.frozen? ⟨b, i, none⟩ = false) : Go.Sort.HoldsK entCells 3 w b off es.toArray := by
  intro t ht
  have ht' : t < es.length * 3 := by simpa using ht
  refine ⟨?_, hf _⟩
  obtain ⟨e, he, hc⟩ := flat_cell es t ht'
  rw [show id (Go.Sort.flatK entCells 3 es.toArray)[t]! = (Go.Sort.flatK entCells 3 es.toArray)[t]! from rfl, hc]
  obtain ⟨b', off', hb, hcs⟩ := h (fun e => by subst e; simp at ht')
  cases hb
  obtain ⟨c1, c2, c3⟩ := hcs _ e he
  have hm : t % 3 = 0 ∨ t % 3 = 1 ∨ t % 3 = 2 := by omega
  rcases hm with hm | hm | hm
  · rw [hm, show off + t = off + t / 3 * 3 by omega, c1]; rfl
  · rw [hm, show off + t = off + t / 3 * 3 + 1 by omega, c2]; rfl
  · rw [hm, show off + t = off + t / 3 * 3 + 2 by omega, c3]; rfl
theorem holds_ents [Inhabited Ent] {w : World} {b off : Nat} {es : List Ent} (h : Go.Sort.HoldsK entCells 3 w b off es.toArray) : EntsAt w (some ⟨b, off, none⟩) es := fun _ => by
  refine ⟨b, off, rfl, fun i e he => ?_⟩
  have hi := (List.getElem?_eq_some_iff.1 he).1
  have key : ∀ c, c < 3 → w.cell? ⟨b, off + (i * 3 + c), none⟩ = some ((entCells e)[c]!) := fun c hc => by
    have h1 := (h (i * 3 + c) (by simp; omega)).1
    obtain ⟨e', he', hc'⟩ := flat_cell es (i * 3 + c) (by omega)
    rw [show (i * 3 + c) / 3 = i by omega, he] at he'
    cases he'
    rw [h1]
    show some (Go.Sort.flatK entCells 3 es.toArray)[i * 3 + c]! = _
    rw [hc', show (i * 3 + c) % 3 = c by omega]
  have k0 := key 0 (by omega)
  have k1 := key 1 (by omega)
  have k2 := key 2 (by omega)
  exact ⟨k0, by rw [show off + i * 3 + 1 = off + (i * 3 + 1) by omega]; exact k1, by rw [show off + i * 3 + 2 = off + (i * 3 + 2) by omega]; exact k2⟩
theorem ext_putRow {w0 w : World} {b off n : Nat} {F : Array Value} (h : Ext w0 w) (hb : w0.heap.size ≤ b) : Ext w0 (Go.Sort.putRow id (Go.Sort.ahead w n) b off F) := by
  refine ⟨⟨h.below.os, h.below.tape, h.below.output, ?_, fun k hk => ?_⟩⟩
  · show w0.heap.size ≤ (w.heap.modify b _).size
    rw [Array.size_modify]; exact h.size
  · rw [← h.below.block k hk]
    show (w.heap.modify b _)[k]? = w.heap[k]?
    rw [Array.getElem?_modify, if_neg (by omega)]
theorem revE_any (ao : Option Addr) (cap : Nat) (es : List Ent) (w : World) (hE : EntsAt w ao es) (hl : es.length ≤ 1000) (hf : ∀ p, ao = some p → ∀ i, w.frozen? ⟨p.block, i, none⟩ = false) :
    Calls Tryz.prog 85 #[.slice ao es.length cap] w fun e w' => e = .returned (.tuple #[]) ∧ EntsAt w' ao es.reverse ∧ ∀ w0, Ext w0 w → (∀ p, ao = some p → w0.heap.size ≤ p.block) → Ext w0 w' := by
  haveI : Inhabited Ent := ⟨⟨⟨#[]⟩, ⟨#[]⟩, false⟩⟩
  by_cases hne : es = []
  · subst hne
    exact (AnyQ.slices_Reverse_empty Tryz.reverseE ao cap w).mono fun e w' h => ⟨h.1, fun h => absurd rfl h, fun w0 hx _ => by rw [h.2]; exact hx⟩
  · obtain ⟨b, off, rfl, _⟩ := hE hne
    have := AnyQ.slices_Reverse Tryz.reverseE 3 Tryz.isAgg49 Tryz.sizeOf49 entCells (fun _ => rfl) entCells_one b off cap es.toArray w (ents_holds hE (hf _ rfl)) (by simp; omega)
    rw [show es.toArray.size = es.length by simp] at this
    refine this.mono fun e w' h => ?_
    obtain ⟨h1, n, rfl⟩ := h
    refine ⟨h1, holds_ents ?_, fun w0 hx hb => ext_putRow hx (hb _ rfl)⟩
    rw [show (es.toArray.reverse) = es.reverse.toArray by simp]
    exact Go.Sort.holdsK_putRowK entCells 3 _ b off es.toArray _ (Go.Sort.holdsK_ahead entCells 3 w n b off es.toArray (ents_holds hE (hf _ rfl))) (by simp)
end Go.Proofs.YthndopokabceiaaGreatDoor
