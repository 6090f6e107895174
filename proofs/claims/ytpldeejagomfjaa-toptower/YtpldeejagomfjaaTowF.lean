
/- Towers: contracts for laws. -/
import Derived.Test.YtpldeejagomfjaaTowE
import Derived.Test.YtpldeejagomfjaaMrgB
namespace Go.Proofs.Ytpldeejagomfjaa
open Go.RowKit

/-- Numbers in memory. -/
def IntsAt (w : World) (ao : Option Addr) (hs : List Int) : Prop :=
  hs ≠ [] → ∃ b off, ao = some ⟨b, off, none⟩ ∧ ∀ i x, hs[i]? = some x → w.cell? ⟨b, off + i, none⟩ = some (.int .i64 x)
theorem IntsAt.get {w : World} {ao : Option Addr} {hs : List Int} (h : IntsAt w ao hs) {k : Nat} (hk : k < hs.length) : ∃ b off x, ao = some ⟨b, off, none⟩ ∧ hs[k]? = some x ∧ w.cell? ⟨b, off + k, none⟩ = some (.int .i64 x) := by
  obtain ⟨b, off, rfl, hc⟩ := h (by intro e; subst e; simp at hk)
  have he : hs[k]? = some hs[k] := List.getElem?_eq_getElem hk
  exact ⟨b, off, hs[k], rfl, he, hc k _ he⟩
/-- A tower that was made behind the world W0. -/
structure TowN (W0 w : World) (lb : Nat) (ns : List Nd) : Prop where
  t : Tow w lb ns
  new : ∀ x ∈ lb :: ns.map Nd.b, W0.heap.size ≤ x
  ext : Ext W0 w
theorem TowN.more {W0 w w' : World} {lb : Nat} {ns : List Nd} (h : TowN W0 w lb ns) (hx : Ext w w') : TowN W0 w' lb ns := ⟨h.t.ext hx, h.new, h.ext.trans hx⟩
theorem TowN.lt {W0 w : World} {lb : Nat} {ns : List Nd} (h : TowN W0 w lb ns) : ∀ x ∈ lb :: ns.map Nd.b, x < w.heap.size := by
  obtain ⟨L, _, hM⟩ := h.t.m
  intro x hx
  rcases List.mem_cons.1 hx with rfl | hx
  · exact hM.head.lt
  · obtain ⟨n, hn, rfl⟩ := List.mem_map.1 hx; exact (hM.node n hn).lt
/-- An entry has been put. -/
structure TowP (W0 w w' : World) (lb : Nat) (ns : List Nd) (e : Ent) : Prop where
  ex : ∃ ms, TowN W0 w' lb ms ∧ ms.map Nd.e = putE (ns.map Nd.e) e ∧ Kp w w' (lb :: ns.map Nd.b)
theorem putN_any (W0 : World) (lb : Nat) (ns : List Nd) (key val : ByteArray) (gone : Bool) (high : Int) (w : World) (h : TowN W0 w lb ns) (hsm : ns.length ≤ 900) :
    Calls Try.prog 51 #[.pointer (some ⟨lb, 0, none⟩), .agg #[.string key, .string val, .bool gone], .int .i64 high] w fun e w' => e = .returned (.tuple #[]) ∧ TowP W0 w w' lb ns ⟨key, val, gone⟩ := by
  obtain ⟨L, hC, hM⟩ := h.t.m
  refine (put_any lb ns L key val gone high w hC h.t.g hM hsm).mono ?_
  rintro e w' ⟨rfl, ⟨ms, M, g2, hC2, hM2, he, hK, hf⟩⟩
  refine ⟨rfl, ms, ⟨⟨g2, M, hC2, hM2⟩, fun x hx => ?_, hK.ext h.ext h.new⟩, he, hK⟩
  rcases List.mem_cons.1 hx with rfl | hx
  · exact h.new x (by simp)
  · obtain ⟨n, hn, rfl⟩ := List.mem_map.1 hx
    rcases hf n hn with h1 | h1
    · exact h.new _ (List.mem_cons_of_mem _ h1)
    · exact Nat.le_trans h.ext.size h1
theorem newN_any (w : World) : Calls Try.prog 50 #[] w fun e w' => e = .returned (.pointer (some ⟨w.heap.size, 0, none⟩)) ∧ TowN w w' w.heap.size [] := by
  refine (tnew_any w).mono ?_
  rintro e w' ⟨rfl, rfl⟩
  exact ⟨rfl, tow_new w, by simp, (Ext.refl w).alloc _⟩
theorem EntsAt.kept {w w' : World} {ao : Option Addr} {es : List Ent} {S : List Nat} (h : EntsAt w ao es) (hK : Kp w w' S) (ho : ∀ b o, ao = some ⟨b, o, none⟩ → b ∉ S ∧ b < w.heap.size) : EntsAt w' ao es := by
  intro hne
  obtain ⟨b, off, rfl, hc⟩ := h hne
  obtain ⟨h1, h2⟩ := ho b off rfl
  have hcell : ∀ o, w'.cell? ⟨b, o, none⟩ = w.cell? ⟨b, o, none⟩ := fun o => by simp [World.cell?, hK.blk b h2 h1]
  exact ⟨b, off, rfl, fun i e he => ⟨by rw [hcell]; exact (hc i e he).1, by rw [hcell]; exact (hc i e he).2.1, by rw [hcell]; exact (hc i e he).2.2⟩⟩
/-- A list is answered, in new memory. -/
def RetN (w w' : World) (e : Ending) (es : List Ent) : Prop := ∃ ao cap, e = .returned (.slice ao es.length cap) ∧ EntsAt w' ao es ∧ Ext w w' ∧ ∀ b o, ao = some ⟨b, o, none⟩ → w.heap.size ≤ b ∧ b < w'.heap.size
theorem Lst.retN {w w' : World} {v : Value} {es : List Ent} (h : Lst w w' v es) : RetN w w' (.returned v) es := by
  obtain ⟨ao, cap, hv, ha⟩ := h.at
  refine ⟨ao, cap, by rw [hv], ha, h.ext, fun b o e => ?_⟩
  subst e
  rw [hv] at h
  exact h.own.lt b rfl
theorem tallN_any (lb : Nat) (ns : List Nd) (w : World) (h : Tow w lb ns) (hsm : ns.length ≤ 1000) : Calls Try.prog 56 #[.pointer (some ⟨lb, 0, none⟩)] w fun e w' => RetN w w' e (ns.map Nd.e) := by
  refine (tall_any lb ns w h hsm).mono ?_
  rintro e w' ⟨v, rfl, h⟩
  exact h.retN
theorem got_form (o : Option Ent) : ∃ a b c d, gotV o = .tuple #[.agg #[.string a, .string b, .bool c], .bool d] := ⟨_, _, _, _, rfl⟩
end Go.Proofs.Ytpldeejagomfjaa
