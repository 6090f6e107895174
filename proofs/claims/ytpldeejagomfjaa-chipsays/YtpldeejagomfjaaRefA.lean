
/- The document's chip, and how it lies in memory. -/
import Derived.Test.YtpldeejagomfjaaActB
import Derived.Deep.AppendLies
namespace Go.Proofs.Ytpldeejagomfjaa
open Go.RowKit

def shCell : Pg → List Value
  | .whole d => [.string (txtL d), .bool false]
  | .torn => [.string ⟨#[]⟩, .bool true]
def shCells (l : List Pg) : List Value := l.flatMap shCell
theorem shCell_len (q : Pg) : (shCell q).length = 2 := by cases q <;> rfl
theorem shCells_len (l : List Pg) : (shCells l).length = l.length * 2 := by
  induction l with
  | nil => rfl
  | cons q r ih => unfold shCells at *; rw [List.flatMap_cons, List.length_append, ih, shCell_len, List.length_cons]; omega
theorem shCells_get (l : List Pg) : ∀ (p j : Nat) (q : Pg), j < 2 → l[p]? = some q → (shCells l)[p * 2 + j]? = (shCell q)[j]? := by
  induction l with
  | nil => intro p j q _ h; simp at h
  | cons x r ih =>
    intro p j q hj h
    unfold shCells at *
    rw [List.flatMap_cons]
    cases p with
    | zero =>
      simp at h; subst h
      rw [Nat.zero_mul, Nat.zero_add, List.getElem?_append_left (by rw [shCell_len]; exact hj)]
    | succ p =>
      rw [List.getElem?_append_right (by rw [shCell_len]; omega), shCell_len, show (p + 1) * 2 + j - 2 = p * 2 + j by omega]
      exact ih p j q hj (by simpa using h)
theorem shCells_app (l : List Pg) (q : Pg) : shCells (l ++ [q]) = shCells l ++ shCell q := by simp [shCells]
theorem shCells_one (l : List Pg) : ∀ v ∈ shCells l, v.oneCell' = true := by
  intro v hv
  unfold shCells at hv
  rw [List.mem_flatMap] at hv
  obtain ⟨q, _, hv⟩ := hv
  cases q <;> simp [shCell] at hv <;> rcases hv with rfl | rfl <;> rfl

def tornN : Option Pend → Int
  | none => 0
  | some (.write b _) => 1 + (b : Int)
  | some (.erase b) => 101 + (b : Int)

/-- The cells of the document's chip. -/
structure RRep (w : World) (rc : Array Value) (pg : Nat → List Pg) (wr : Nat → Nat) (wk bd : Nat → Bool) (left : Int) (down : Bool) (half : Int) (data : ByteArray) : Prop where
  size : rc.size = 100
  rows : ∀ b, b < 24 → ∃ v, rc[b]? = some v ∧ w.ownsRow 0 143 2 v (pg b).length (shCells (pg b)) ∧ (pg b = [] → v = .slice none 0 0)
  dis : ∀ b b' v v' g, b < 24 → b' < 24 → ¬ b = b' → rc[b]? = some v → rc[b']? = some v' → v.ownBlock = some g → ¬ v'.ownBlock = some g
  cwr : ∀ b, b < 24 → rc[24 + b]? = some (.int .i64 (wr b : Int))
  cwk : ∀ b, b < 24 → rc[48 + b]? = some (.bool (wk b))
  cbd : ∀ b, b < 24 → rc[72 + b]? = some (.bool (bd b))
  cleft : rc[96]? = some (.int .i64 left)
  cdown : rc[97]? = some (.bool down)
  chalf : rc[98]? = some (.int .i64 half)
  cdata : rc[99]? = some (.string data)
/-- The document's chip M lies in block rb. -/
structure RefAt (w : World) (rb : Nat) (M : CM) : Prop where
  cells : ∃ rc data, Blk w rb rc 60 ∧ RRep w rc M.pg M.wr M.wk M.bd (max M.left (-1)) (downB M) (tornN M.pend) data ∧ ∀ b d, M.pend = some (.write b d) → data = txtL d

theorem own_grown {w w' : World} {v : Value} {n : Nat} {xs : List Value} {r : Option Nat} (h : w.ownsRow 0 143 2 v n xs) (hg : w.grownBy w' r) (hne : ∀ g, v.ownBlock = some g → ¬ some g = r) : w'.ownsRow 0 143 2 v n xs := by
  refine ⟨h.1, ?_⟩
  rcases h.2 with ⟨rfl, h0⟩ | ⟨g, cap, cur, rfl, hb, hh, h1, h2, h3, h4⟩
  · exact .inl ⟨rfl, h0⟩
  · refine .inr ⟨g, cap, cur, rfl, hb, ?_, h1, h2, h3, h4⟩
    rw [hg.block g (lt_of_block hh) (hne g rfl)]; exact hh
theorem own_type {w : World} {v : Value} {n g : Nat} {xs : List Value} (h : w.ownsRow 0 143 2 v n xs) (hg : v.ownBlock = some g) : ∃ cur, w.heap[g]? = some (.cells cur 143 (0, 0)) := by
  rcases h.2 with ⟨rfl, h0⟩ | ⟨g', cap, cur, rfl, hb, hh, h1, h2, h3, h4⟩
  · cases hg
  · simp [Value.ownBlock] at hg; subst hg; exact ⟨cur, hh⟩
theorem own_ne {w : World} {v : Value} {n g c : Nat} {xs : List Value} {cs : Array Value} {t : TypeId} (h : w.ownsRow 0 143 2 v n xs) (hg : v.ownBlock = some g) (hc : Blk w c cs t) (ht : ¬ t = 143) : ¬ g = c := by
  rintro rfl
  obtain ⟨cur, hh⟩ := own_type h hg
  rw [hc.blk] at hh
  cases hh
  exact ht rfl
theorem Blk.ne {w : World} {a b : Nat} {cs cs' : Array Value} {t t' : TypeId} (h : Blk w a cs t) (h' : Blk w b cs' t') (ht : ¬ t = t') : ¬ a = b := by
  rintro rfl
  have := h.blk; rw [h'.blk] at this
  cases this
  exact ht rfl

theorem RRep.stays {w w' : World} {rc : Array Value} {pg : Nat → List Pg} {wr : Nat → Nat} {wk bd : Nat → Bool} {left : Int} {down : Bool} {half : Int} {data : ByteArray} (h : RRep w rc pg wr wk bd left down half data)
    {c : Nat} {cs : Array Value} {t : TypeId} (hc : Blk w c cs t) (ht : ¬ t = 143) (hg : w.grownBy w' (some c)) : RRep w' rc pg wr wk bd left down half data :=
  ⟨h.size, fun b hb => by
    obtain ⟨v, h1, h2, hnl⟩ := h.rows b hb
    exact ⟨v, h1, own_grown h2 hg (fun g hgg e => own_ne h2 hgg hc ht (by simpa using e)), hnl⟩, h.dis, h.cwr, h.cwk, h.cbd, h.cleft, h.cdown, h.chalf, h.cdata⟩
theorem RRep.ext {w w' : World} {rc : Array Value} {pg : Nat → List Pg} {wr : Nat → Nat} {wk bd : Nat → Bool} {left : Int} {down : Bool} {half : Int} {data : ByteArray} (h : RRep w rc pg wr wk bd left down half data) (hx : Ext w w') : RRep w' rc pg wr wk bd left down half data :=
  ⟨h.size, fun b hb => by
    obtain ⟨v, h1, h2, hnl⟩ := h.rows b hb
    exact ⟨v, h1, own_grown h2 (grow_ext hx none) (fun g _ e => by cases e), hnl⟩, h.dis, h.cwr, h.cwk, h.cbd, h.cleft, h.cdown, h.chalf, h.cdata⟩
theorem RefAt.ext {w w' : World} {rb : Nat} {M : CM} (h : RefAt w rb M) (hx : Ext w w') : RefAt w' rb M := by
  obtain ⟨rc, data, h1, h2, h3⟩ := h.cells
  exact ⟨rc, data, h1.ext hx, h2.ext hx, h3⟩
/-- The chip's change leaves the document's one. -/
theorem RefAt.chip {w w' : World} {rb cb : Nat} {M M2 : CM} (h : RefAt w rb M) (hc : ChipAt w cb M2) (hg : w.grownBy w' (some cb)) : RefAt w' rb M := by
  obtain ⟨rc, data, h1, h2, h3⟩ := h.cells
  obtain ⟨⟨cs, fv, k1, k2, k3⟩, _⟩ := hc
  exact ⟨rc, data, h1.grown hg (h1.ne k1 (by decide)), h2.stays k1 (by decide) hg, h3⟩
theorem ChipAt.refs {w w' : World} {rb cb : Nat} {M M2 : CM} (hc : ChipAt w cb M) (h : RefAt w rb M2) (hg : w.grownBy w' (some rb)) : ChipAt w' cb M := by
  obtain ⟨rc, data, h1, h2, h3⟩ := h.cells
  obtain ⟨⟨cs, fv, k1, k2, k3⟩, hok⟩ := hc
  refine ⟨⟨cs, fv, k1.grown hg (k1.ne h1 (by decide)), k2, ?_⟩, hok⟩
  match hp : M.pend with
  | none => rw [hp] at k3; exact k3
  | some (.write b d) =>
    rw [hp] at k3
    obtain ⟨b1, b2, kb, pb, e, n1, n2, n3, n4, hb, hd, q1, q2, q3, q4⟩ := k3
    exact ⟨b1, b2, kb, pb, e, n1, n2, n3, n4, hb, hd, q1.grown hg (q1.ne h1 (by decide)), q2.grown hg (q2.ne h1 (by decide)), q3.grown hg (q3.ne h1 (by decide)), q4.grown hg (q4.ne h1 (by decide))⟩
  | some (.erase b) =>
    rw [hp] at k3
    obtain ⟨b1, b2, kb, e, n1, n2, n3, hb, q1, q2, q3⟩ := k3
    exact ⟨b1, b2, kb, e, n1, n2, n3, hb, q1.grown hg (q1.ne h1 (by decide)), q2.grown hg (q2.ne h1 (by decide)), q3.grown hg (q3.ne h1 (by decide))⟩
/-- What a chip that lies in memory may be. -/
structure MOk (M : CM) : Prop where
  len : ∀ b, b < 24 → (M.pg b).length ≤ 8
  wb : ∀ b d, M.pend = some (.write b d) → b < 24 ∧ (M.pg b).length < 8
  eb : ∀ b, M.pend = some (.erase b) → b < 24
theorem ChipAt.mok {w : World} {cb : Nat} {M : CM} (hc : ChipAt w cb M) : MOk M := by
  obtain ⟨⟨cs, fv, k1, k2, k3⟩, hok⟩ := hc
  refine ⟨fun b hb => (k2.blk b hb).len8, fun b d hp => ⟨?_, hok b d hp⟩, fun b hp => ?_⟩
  · rw [hp] at k3
    obtain ⟨b1, b2, kb, pb, e, n1, n2, n3, n4, hb, _⟩ := k3
    exact hb
  · rw [hp] at k3
    obtain ⟨b1, b2, kb, e, n1, n2, n3, hb, _⟩ := k3
    exact hb

section
variable {w : World} {rc : Array Value} {pg : Nat → List Pg} {wr : Nat → Nat} {wk bd : Nat → Bool} {left : Int} {down : Bool} {half : Int} {data : ByteArray}
theorem RRep.setWr (h : RRep w rc pg wr wk bd left down half data) {b : Nat} (hb : b < 24) (n : Nat) : RRep w (rc.setIfInBounds (24 + b) (.int .i64 (n : Int))) pg (upd wr b n) wk bd left down half data := by
  have hs := h.size
  refine ⟨by simpa using hs, fun c hc => ?_, fun c c' v v' g hc hc' hne e e' => ?_, fun c hc => ?_, fun c hc => ?_, fun c hc => ?_, ?_, ?_, ?_, ?_⟩
  · rw [Array.getElem?_setIfInBounds_ne (by omega)]; exact h.rows c hc
  · rw [Array.getElem?_setIfInBounds_ne (by omega)] at e e'; exact h.dis c c' v v' g hc hc' hne e e'
  · by_cases e : c = b
    · subst e; rw [Array.getElem?_setIfInBounds_self_of_lt (by omega), upd_same]
    · rw [Array.getElem?_setIfInBounds_ne (by omega), upd_other _ _ _ e]; exact h.cwr c hc
  · rw [Array.getElem?_setIfInBounds_ne (by omega)]; exact h.cwk c hc
  · rw [Array.getElem?_setIfInBounds_ne (by omega)]; exact h.cbd c hc
  · rw [Array.getElem?_setIfInBounds_ne (by omega)]; exact h.cleft
  · rw [Array.getElem?_setIfInBounds_ne (by omega)]; exact h.cdown
  · rw [Array.getElem?_setIfInBounds_ne (by omega)]; exact h.chalf
  · rw [Array.getElem?_setIfInBounds_ne (by omega)]; exact h.cdata
theorem RRep.setWk (h : RRep w rc pg wr wk bd left down half data) {b : Nat} (hb : b < 24) (x : Bool) : RRep w (rc.setIfInBounds (48 + b) (.bool x)) pg wr (upd wk b x) bd left down half data := by
  have hs := h.size
  refine ⟨by simpa using hs, fun c hc => ?_, fun c c' v v' g hc hc' hne e e' => ?_, fun c hc => ?_, fun c hc => ?_, fun c hc => ?_, ?_, ?_, ?_, ?_⟩
  · rw [Array.getElem?_setIfInBounds_ne (by omega)]; exact h.rows c hc
  · rw [Array.getElem?_setIfInBounds_ne (by omega)] at e e'; exact h.dis c c' v v' g hc hc' hne e e'
  · rw [Array.getElem?_setIfInBounds_ne (by omega)]; exact h.cwr c hc
  · by_cases e : c = b
    · subst e; rw [Array.getElem?_setIfInBounds_self_of_lt (by omega), upd_same]
    · rw [Array.getElem?_setIfInBounds_ne (by omega), upd_other _ _ _ e]; exact h.cwk c hc
  · rw [Array.getElem?_setIfInBounds_ne (by omega)]; exact h.cbd c hc
  · rw [Array.getElem?_setIfInBounds_ne (by omega)]; exact h.cleft
  · rw [Array.getElem?_setIfInBounds_ne (by omega)]; exact h.cdown
  · rw [Array.getElem?_setIfInBounds_ne (by omega)]; exact h.chalf
  · rw [Array.getElem?_setIfInBounds_ne (by omega)]; exact h.cdata
theorem RRep.setBd (h : RRep w rc pg wr wk bd left down half data) {b : Nat} (hb : b < 24) (x : Bool) : RRep w (rc.setIfInBounds (72 + b) (.bool x)) pg wr wk (upd bd b x) left down half data := by
  have hs := h.size
  refine ⟨by simpa using hs, fun c hc => ?_, fun c c' v v' g hc hc' hne e e' => ?_, fun c hc => ?_, fun c hc => ?_, fun c hc => ?_, ?_, ?_, ?_, ?_⟩
  · rw [Array.getElem?_setIfInBounds_ne (by omega)]; exact h.rows c hc
  · rw [Array.getElem?_setIfInBounds_ne (by omega)] at e e'; exact h.dis c c' v v' g hc hc' hne e e'
  · rw [Array.getElem?_setIfInBounds_ne (by omega)]; exact h.cwr c hc
  · rw [Array.getElem?_setIfInBounds_ne (by omega)]; exact h.cwk c hc
  · by_cases e : c = b
    · subst e; rw [Array.getElem?_setIfInBounds_self_of_lt (by omega), upd_same]
    · rw [Array.getElem?_setIfInBounds_ne (by omega), upd_other _ _ _ e]; exact h.cbd c hc
  · rw [Array.getElem?_setIfInBounds_ne (by omega)]; exact h.cleft
  · rw [Array.getElem?_setIfInBounds_ne (by omega)]; exact h.cdown
  · rw [Array.getElem?_setIfInBounds_ne (by omega)]; exact h.chalf
  · rw [Array.getElem?_setIfInBounds_ne (by omega)]; exact h.cdata
theorem RRep.tail (h : RRep w rc pg wr wk bd left down half data) {rc' : Array Value} (hs' : rc'.size = 100) (he : ∀ i, i < 96 → rc'[i]? = rc[i]?) {left' : Int} {down' : Bool} {half' : Int} {data' : ByteArray}
    (h1 : rc'[96]? = some (.int .i64 left')) (h2 : rc'[97]? = some (.bool down')) (h3 : rc'[98]? = some (.int .i64 half')) (h4 : rc'[99]? = some (.string data')) : RRep w rc' pg wr wk bd left' down' half' data' := by
  refine ⟨hs', fun c hc => ?_, fun c c' v v' g hc hc' hne e e' => ?_, fun c hc => ?_, fun c hc => ?_, fun c hc => ?_, h1, h2, h3, h4⟩
  · rw [he _ (by omega)]; exact h.rows c hc
  · rw [he _ (by omega)] at e e'; exact h.dis c c' v v' g hc hc' hne e e'
  · rw [he _ (by omega)]; exact h.cwr c hc
  · rw [he _ (by omega)]; exact h.cwk c hc
  · rw [he _ (by omega)]; exact h.cbd c hc
theorem RRep.setLeft (h : RRep w rc pg wr wk bd left down half data) (x : Int) : RRep w (rc.setIfInBounds 96 (.int .i64 x)) pg wr wk bd x down half data := by
  have hs := h.size
  refine h.tail (by simpa using hs) (fun i hi => by rw [Array.getElem?_setIfInBounds_ne (by omega)]) (by rw [Array.getElem?_setIfInBounds_self_of_lt (by omega)]) ?_ ?_ ?_
  · rw [Array.getElem?_setIfInBounds_ne (by omega)]; exact h.cdown
  · rw [Array.getElem?_setIfInBounds_ne (by omega)]; exact h.chalf
  · rw [Array.getElem?_setIfInBounds_ne (by omega)]; exact h.cdata
theorem RRep.setDown (h : RRep w rc pg wr wk bd left down half data) (x : Bool) : RRep w (rc.setIfInBounds 97 (.bool x)) pg wr wk bd left x half data := by
  have hs := h.size
  refine h.tail (by simpa using hs) (fun i hi => by rw [Array.getElem?_setIfInBounds_ne (by omega)]) ?_ (by rw [Array.getElem?_setIfInBounds_self_of_lt (by omega)]) ?_ ?_
  · rw [Array.getElem?_setIfInBounds_ne (by omega)]; exact h.cleft
  · rw [Array.getElem?_setIfInBounds_ne (by omega)]; exact h.chalf
  · rw [Array.getElem?_setIfInBounds_ne (by omega)]; exact h.cdata
theorem RRep.setHalf (h : RRep w rc pg wr wk bd left down half data) (x : Int) : RRep w (rc.setIfInBounds 98 (.int .i64 x)) pg wr wk bd left down x data := by
  have hs := h.size
  refine h.tail (by simpa using hs) (fun i hi => by rw [Array.getElem?_setIfInBounds_ne (by omega)]) ?_ ?_ (by rw [Array.getElem?_setIfInBounds_self_of_lt (by omega)]) ?_
  · rw [Array.getElem?_setIfInBounds_ne (by omega)]; exact h.cleft
  · rw [Array.getElem?_setIfInBounds_ne (by omega)]; exact h.cdown
  · rw [Array.getElem?_setIfInBounds_ne (by omega)]; exact h.cdata
theorem RRep.setData (h : RRep w rc pg wr wk bd left down half data) (x : ByteArray) : RRep w (rc.setIfInBounds 99 (.string x)) pg wr wk bd left down half x := by
  have hs := h.size
  refine h.tail (by simpa using hs) (fun i hi => by rw [Array.getElem?_setIfInBounds_ne (by omega)]) ?_ ?_ ?_ (by rw [Array.getElem?_setIfInBounds_self_of_lt (by omega)])
  · rw [Array.getElem?_setIfInBounds_ne (by omega)]; exact h.cleft
  · rw [Array.getElem?_setIfInBounds_ne (by omega)]; exact h.cdown
  · rw [Array.getElem?_setIfInBounds_ne (by omega)]; exact h.chalf
/-- The pages of block b are others. -/
theorem RRep.setPg (h : RRep w rc pg wr wk bd left down half data) {b : Nat} (hb : b < 24) {w' : World} {r : Option Nat} (hg : w.grownBy w' r) (v : Value) (l : List Pg) (hv : w'.ownsRow 0 143 2 v l.length (shCells l)) (hnl : l = [] → v = .slice none 0 0)
    (h1 : ∀ c u g, c < 24 → ¬ c = b → rc[c]? = some u → u.ownBlock = some g → ¬ some g = r) (h2 : ∀ c u g, c < 24 → ¬ c = b → rc[c]? = some u → u.ownBlock = some g → ¬ v.ownBlock = some g) :
    RRep w' (rc.setIfInBounds b v) (upd pg b l) wr wk bd left down half data := by
  have hs := h.size
  refine ⟨by simpa using hs, fun c hc => ?_, fun c c' u u' g hc hc' hne e e' e3 e4 => ?_, fun c hc => ?_, fun c hc => ?_, fun c hc => ?_, ?_, ?_, ?_, ?_⟩
  · by_cases e : c = b
    · subst e; rw [Array.getElem?_setIfInBounds_self_of_lt (by omega), upd_same]; exact ⟨v, rfl, hv, hnl⟩
    · rw [Array.getElem?_setIfInBounds_ne (by omega), upd_other _ _ _ e]
      obtain ⟨u, k1, k2, k3⟩ := h.rows c hc
      exact ⟨u, k1, own_grown k2 hg (fun g hgg => h1 c u g hc e k1 hgg), k3⟩
  · by_cases q : c = b
    · subst q
      rw [Array.getElem?_setIfInBounds_self_of_lt (by omega)] at e
      rw [Array.getElem?_setIfInBounds_ne (by omega)] at e'
      cases e
      exact h2 c' u' g hc' (fun x => hne x.symm) e' e4 e3
    · by_cases q' : c' = b
      · subst q'
        rw [Array.getElem?_setIfInBounds_self_of_lt (by omega)] at e'
        rw [Array.getElem?_setIfInBounds_ne (by omega)] at e
        cases e'
        exact h2 c u g hc q e e3 e4
      · rw [Array.getElem?_setIfInBounds_ne (by omega)] at e e'
        exact h.dis c c' u u' g hc hc' hne e e' e3 e4
  · rw [Array.getElem?_setIfInBounds_ne (by omega)]; exact h.cwr c hc
  · rw [Array.getElem?_setIfInBounds_ne (by omega)]; exact h.cwk c hc
  · rw [Array.getElem?_setIfInBounds_ne (by omega)]; exact h.cbd c hc
  · rw [Array.getElem?_setIfInBounds_ne (by omega)]; exact h.cleft
  · rw [Array.getElem?_setIfInBounds_ne (by omega)]; exact h.cdown
  · rw [Array.getElem?_setIfInBounds_ne (by omega)]; exact h.chalf
  · rw [Array.getElem?_setIfInBounds_ne (by omega)]; exact h.cdata
end
end Go.Proofs.Ytpldeejagomfjaa
