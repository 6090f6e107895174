/- RefA RefB. -/
import Derived.Test.YtjeinblcpejpnaaActB
import Derived.Deep.AppendLies
/- The document's chip, and how it lies in memory. -/
namespace Go.Proofs.Ytjeinblcpejpnaa
open Go.RowKit

def shCell : Pg → List Value
  | .whole d => [.string (txtL d), .bool false]
  | .torn => [.string ⟨#[]⟩, .bool true]
def shCells (l : List Pg) : List Value := l.flatMap shCell
theorem shCell_len (q : Pg) : (shCell q).length = 2 := by cases q <;> rfl
theorem shCells_len (l : List Pg) : (shCells l).length = l.length * 2 := by
  induction l with
  | nil => rfl
  | cons q r ih => unfold shCells at *; rw [List.flatMap_cons, List.length_append, ih, shCell_len, List.length_cons]; omega
theorem shCells_get (l : List Pg) : ∀ (p j : Nat) (q : Pg), j < 2 → l[p]? = some q → (shCells l)[p * 2 + j]? = (shCell q)[j]? := by
  induction l with
  | nil => intro p j q _ h; simp at h
  | cons x r ih =>
    intro p j q hj h
    unfold shCells at *
    rw [List.flatMap_cons]
    cases p with
    | zero =>
      simp at h; subst h
      rw [Nat.zero_mul, Nat.zero_add, List.getElem?_append_left (by rw [shCell_len]; exact hj)]
    | succ p =>
      rw [List.getElem?_append_right (by rw [shCell_len]; omega), shCell_len, show (p + 1) * 2 + j - 2 = p * 2 + j by omega]
      exact ih p j q hj (by simpa using h)
theorem shCells_app (l : List Pg) (q : Pg) : shCells (l ++ [q]) = shCells l ++ shCell q := by simp [shCells]
theorem shCells_one (l : List Pg) : ∀ v ∈ shCells l, v.oneCell' = true := by
  intro v hv
  unfold shCells at hv
  rw [List.mem_flatMap] at hv
  obtain ⟨q, _, hv⟩ := hv
  cases q <;> simp [shCell] at hv <;> rcases hv with rfl | rfl <;> rfl

def tornN : Option Pend → Int
  | none => 0
  | some (.write b _) => 1 + (b : Int)
  | some (.erase b) => 101 + (b : Int)

/-- The cells of the document's chip. -/
structure RRep (w : World) (rc : Array Value) (pg : Nat → List Pg) (wr : Nat → Nat) (wk bd : Nat → Bool) (left : Int) (down : Bool) (half : Int) (data : ByteArray) : Prop where
  size : rc.size = 100
  rows : ∀ b, b < 24 → ∃ v, rc[b]? = some v ∧ w.ownsRow 0 148 2 v (pg b).length (shCells (pg b)) ∧ (pg b = [] → v = .slice none 0 0)
  dis : ∀ b b' v v' g, b < 24 → b' < 24 → ¬ b = b' → rc[b]? = some v → rc[b']? = some v' → v.ownBlock = some g → ¬ v'.ownBlock = some g
  cwr : ∀ b, b < 24 → rc[24 + b]? = some (.int .i64 (wr b : Int))
  cwk : ∀ b, b < 24 → rc[48 + b]? = some (.bool (wk b))
  cbd : ∀ b, b < 24 → rc[72 + b]? = some (.bool (bd b))
  cleft : rc[96]? = some (.int .i64 left)
  cdown : rc[97]? = some (.bool down)
  chalf : rc[98]? = some (.int .i64 half)
  cdata : rc[99]? = some (.string data)
/-- The document's chip M lies in block rb. -/
structure RefAt (w : World) (rb : Nat) (M : CM) : Prop where
  cells : ∃ rc data, Blk w rb rc 60 ∧ RRep w rc M.pg M.wr M.wk M.bd (max M.left (-1)) (downB M) (tornN M.pend) data ∧ ∀ b d, M.pend = some (.write b d) → data = txtL d

theorem own_grown {w w' : World} {v : Value} {n : Nat} {xs : List Value} {r : Option Nat} (h : w.ownsRow 0 148 2 v n xs) (hg : w.grownBy w' r) (hne : ∀ g, v.ownBlock = some g → ¬ some g = r) : w'.ownsRow 0 148 2 v n xs := by
  refine ⟨h.1, ?_⟩
  rcases h.2 with ⟨rfl, h0⟩ | ⟨g, cap, cur, rfl, hb, hh, h1, h2, h3, h4⟩
  · exact .inl ⟨rfl, h0⟩
  · refine .inr ⟨g, cap, cur, rfl, hb, ?_, h1, h2, h3, h4⟩
    rw [hg.block g (lt_of_block hh) (hne g rfl)]; exact hh
theorem own_type {w : World} {v : Value} {n g : Nat} {xs : List Value} (h : w.ownsRow 0 148 2 v n xs) (hg : v.ownBlock = some g) : ∃ cur, w.heap[g]? = some (.cells cur 148 (0, 0)) := by
  rcases h.2 with ⟨rfl, h0⟩ | ⟨g', cap, cur, rfl, hb, hh, h1, h2, h3, h4⟩
  · cases hg
  · simp [Value.ownBlock] at hg; subst hg; exact ⟨cur, hh⟩
theorem own_ne {w : World} {v : Value} {n g c : Nat} {xs : List Value} {cs : Array Value} {t : TypeId} (h : w.ownsRow 0 148 2 v n xs) (hg : v.ownBlock = some g) (hc : Blk w c cs t) (ht : ¬ t = 148) : ¬ g = c := by
  rintro rfl
  obtain ⟨cur, hh⟩ := own_type h hg
  rw [hc.blk] at hh
  cases hh
  exact ht rfl
theorem Blk.ne {w : World} {a b : Nat} {cs cs' : Array Value} {t t' : TypeId} (h : Blk w a cs t) (h' : Blk w b cs' t') (ht : ¬ t = t') : ¬ a = b := by
  rintro rfl
  have := h.blk; rw [h'.blk] at this
  cases this
  exact ht rfl

theorem RRep.stays {w w' : World} {rc : Array Value} {pg : Nat → List Pg} {wr : Nat → Nat} {wk bd : Nat → Bool} {left : Int} {down : Bool} {half : Int} {data : ByteArray} (h : RRep w rc pg wr wk bd left down half data)
    {c : Nat} {cs : Array Value} {t : TypeId} (hc : Blk w c cs t) (ht : ¬ t = 148) (hg : w.grownBy w' (some c)) : RRep w' rc pg wr wk bd left down half data :=
  ⟨h.size, fun b hb => by
    obtain ⟨v, h1, h2, hnl⟩ := h.rows b hb
    exact ⟨v, h1, own_grown h2 hg (fun g hgg e => own_ne h2 hgg hc ht (by simpa using e)), hnl⟩, h.dis, h.cwr, h.cwk, h.cbd, h.cleft, h.cdown, h.chalf, h.cdata⟩
theorem RRep.ext {w w' : World} {rc : Array Value} {pg : Nat → List Pg} {wr : Nat → Nat} {wk bd : Nat → Bool} {left : Int} {down : Bool} {half : Int} {data : ByteArray} (h : RRep w rc pg wr wk bd left down half data) (hx : Ext w w') : RRep w' rc pg wr wk bd left down half data :=
  ⟨h.size, fun b hb => by
    obtain ⟨v, h1, h2, hnl⟩ := h.rows b hb
    exact ⟨v, h1, own_grown h2 (grow_ext hx none) (fun g _ e => by cases e), hnl⟩, h.dis, h.cwr, h.cwk, h.cbd, h.cleft, h.cdown, h.chalf, h.cdata⟩
theorem RefAt.ext {w w' : World} {rb : Nat} {M : CM} (h : RefAt w rb M) (hx : Ext w w') : RefAt w' rb M := by
  obtain ⟨rc, data, h1, h2, h3⟩ := h.cells
  exact ⟨rc, data, h1.ext hx, h2.ext hx, h3⟩
/-- The chip's change leaves the document's one. -/
theorem RefAt.chip {w w' : World} {rb cb : Nat} {M M2 : CM} (h : RefAt w rb M) (hc : ChipAt w cb M2) (hg : w.grownBy w' (some cb)) : RefAt w' rb M := by
  obtain ⟨rc, data, h1, h2, h3⟩ := h.cells
  obtain ⟨⟨cs, fv, k1, k2, k3⟩, _⟩ := hc
  exact ⟨rc, data, h1.grown hg (h1.ne k1 (by decide)), h2.stays k1 (by decide) hg, h3⟩
theorem ChipAt.refs {w w' : World} {rb cb : Nat} {M M2 : CM} (hc : ChipAt w cb M) (h : RefAt w rb M2) (hg : w.grownBy w' (some rb)) : ChipAt w' cb M := by
  obtain ⟨rc, data, h1, h2, h3⟩ := h.cells
  obtain ⟨⟨cs, fv, k1, k2, k3⟩, hok⟩ := hc
  refine ⟨⟨cs, fv, k1.grown hg (k1.ne h1 (by decide)), k2, ?_⟩, hok⟩
  match hp : M.pend with
  | none => rw [hp] at k3; exact k3
  | some (.write b d) =>
    rw [hp] at k3
    obtain ⟨b1, b2, kb, pb, e, n1, n2, n3, n4, hb, hd, q1, q2, q3, q4⟩ := k3
    exact ⟨b1, b2, kb, pb, e, n1, n2, n3, n4, hb, hd, q1.grown hg (q1.ne h1 (by decide)), q2.grown hg (q2.ne h1 (by decide)), q3.grown hg (q3.ne h1 (by decide)), q4.grown hg (q4.ne h1 (by decide))⟩
  | some (.erase b) =>
    rw [hp] at k3
    obtain ⟨b1, b2, kb, e, n1, n2, n3, hb, q1, q2, q3⟩ := k3
    exact ⟨b1, b2, kb, e, n1, n2, n3, hb, q1.grown hg (q1.ne h1 (by decide)), q2.grown hg (q2.ne h1 (by decide)), q3.grown hg (q3.ne h1 (by decide))⟩
/-- What a chip that lies in memory may be. -/
structure MOk (M : CM) : Prop where
  len : ∀ b, b < 24 → (M.pg b).length ≤ 8
  wb : ∀ b d, M.pend = some (.write b d) → b < 24 ∧ (M.pg b).length < 8
  eb : ∀ b, M.pend = some (.erase b) → b < 24
theorem ChipAt.mok {w : World} {cb : Nat} {M : CM} (hc : ChipAt w cb M) : MOk M := by
  obtain ⟨⟨cs, fv, k1, k2, k3⟩, hok⟩ := hc
  refine ⟨fun b hb => (k2.blk b hb).len8, fun b d hp => ⟨?_, hok b d hp⟩, fun b hp => ?_⟩
  · rw [hp] at k3
    obtain ⟨b1, b2, kb, pb, e, n1, n2, n3, n4, hb, _⟩ := k3
    exact hb
  · rw [hp] at k3
    obtain ⟨b1, b2, kb, e, n1, n2, n3, hb, _⟩ := k3
    exact hb

section
variable {w : World} {rc : Array Value} {pg : Nat → List Pg} {wr : Nat → Nat} {wk bd : Nat → Bool} {left : Int} {down : Bool} {half : Int} {data : ByteArray}
theorem RRep.setWr (h : RRep w rc pg wr wk bd left down half data) {b : Nat} (hb : b < 24) (n : Nat) : RRep w (rc.setIfInBounds (24 + b) (.int .i64 (n : Int))) pg (upd wr b n) wk bd left down half data := by
  have hs := h.size
  refine ⟨by simpa using hs, fun c hc => ?_, fun c c' v v' g hc hc' hne e e' => ?_, fun c hc => ?_, fun c hc => ?_, fun c hc => ?_, ?_, ?_, ?_, ?_⟩
  · rw [Array.getElem?_setIfInBounds_ne (by omega)]; exact h.rows c hc
  · rw [Array.getElem?_setIfInBounds_ne (by omega)] at e e'; exact h.dis c c' v v' g hc hc' hne e e'
  · by_cases e : c = b
    · subst e; rw [Array.getElem?_setIfInBounds_self_of_lt (by omega), upd_same]
    · rw [Array.getElem?_setIfInBounds_ne (by omega), upd_other _ _ _ e]; exact h.cwr c hc
  · rw [Array.getElem?_setIfInBounds_ne (by omega)]; exact h.cwk c hc
  · rw [Array.getElem?_setIfInBounds_ne (by omega)]; exact h.cbd c hc
  · rw [Array.getElem?_setIfInBounds_ne (by omega)]; exact h.cleft
  · rw [Array.getElem?_setIfInBounds_ne (by omega)]; exact h.cdown
  · rw [Array.getElem?_setIfInBounds_ne (by omega)]; exact h.chalf
  · rw [Array.getElem?_setIfInBounds_ne (by omega)]; exact h.cdata
theorem RRep.setWk (h : RRep w rc pg wr wk bd left down half data) {b : Nat} (hb : b < 24) (x : Bool) : RRep w (rc.setIfInBounds (48 + b) (.bool x)) pg wr (upd wk b x) bd left down half data := by
  have hs := h.size
  refine ⟨by simpa using hs, fun c hc => ?_, fun c c' v v' g hc hc' hne e e' => ?_, fun c hc => ?_, fun c hc => ?_, fun c hc => ?_, ?_, ?_, ?_, ?_⟩
  · rw [Array.getElem?_setIfInBounds_ne (by omega)]; exact h.rows c hc
  · rw [Array.getElem?_setIfInBounds_ne (by omega)] at e e'; exact h.dis c c' v v' g hc hc' hne e e'
  · rw [Array.getElem?_setIfInBounds_ne (by omega)]; exact h.cwr c hc
  · by_cases e : c = b
    · subst e; rw [Array.getElem?_setIfInBounds_self_of_lt (by omega), upd_same]
    · rw [Array.getElem?_setIfInBounds_ne (by omega), upd_other _ _ _ e]; exact h.cwk c hc
  · rw [Array.getElem?_setIfInBounds_ne (by omega)]; exact h.cbd c hc
  · rw [Array.getElem?_setIfInBounds_ne (by omega)]; exact h.cleft
  · rw [Array.getElem?_setIfInBounds_ne (by omega)]; exact h.cdown
  · rw [Array.getElem?_setIfInBounds_ne (by omega)]; exact h.chalf
  · rw [Array.getElem?_setIfInBounds_ne (by omega)]; exact h.cdata
theorem RRep.setBd (h : RRep w rc pg wr wk bd left down half data) {b : Nat} (hb : b < 24) (x : Bool) : RRep w (rc.setIfInBounds (72 + b) (.bool x)) pg wr wk (upd bd b x) left down half data := by
  have hs := h.size
  refine ⟨by simpa using hs, fun c hc => ?_, fun c c' v v' g hc hc' hne e e' => ?_, fun c hc => ?_, fun c hc => ?_, fun c hc => ?_, ?_, ?_, ?_, ?_⟩
  · rw [Array.getElem?_setIfInBounds_ne (by omega)]; exact h.rows c hc
  · rw [Array.getElem?_setIfInBounds_ne (by omega)] at e e'; exact h.dis c c' v v' g hc hc' hne e e'
  · rw [Array.getElem?_setIfInBounds_ne (by omega)]; exact h.cwr c hc
  · rw [Array.getElem?_setIfInBounds_ne (by omega)]; exact h.cwk c hc
  · by_cases e : c = b
    · subst e; rw [Array.getElem?_setIfInBounds_self_of_lt (by omega), upd_same]
    · rw [Array.getElem?_setIfInBounds_ne (by omega), upd_other _ _ _ e]; exact h.cbd c hc
  · rw [Array.getElem?_setIfInBounds_ne (by omega)]; exact h.cleft
  · rw [Array.getElem?_setIfInBounds_ne (by omega)]; exact h.cdown
  · rw [Array.getElem?_setIfInBounds_ne (by omega)]; exact h.chalf
  · rw [Array.getElem?_setIfInBounds_ne (by omega)]; exact h.cdata
theorem RRep.tail (h : RRep w rc pg wr wk bd left down half data) {rc' : Array Value} (hs' : rc'.size = 100) (he : ∀ i, i < 96 → rc'[i]? = rc[i]?) {left' : Int} {down' : Bool} {half' : Int} {data' : ByteArray}
    (h1 : rc'[96]? = some (.int .i64 left')) (h2 : rc'[97]? = some (.bool down')) (h3 : rc'[98]? = some (.int .i64 half')) (h4 : rc'[99]? = some (.string data')) : RRep w rc' pg wr wk bd left' down' half' data' := by
  refine ⟨hs', fun c hc => ?_, fun c c' v v' g hc hc' hne e e' => ?_, fun c hc => ?_, fun c hc => ?_, fun c hc => ?_, h1, h2, h3, h4⟩
  · rw [he _ (by omega)]; exact h.rows c hc
  · rw [he _ (by omega)] at e e'; exact h.dis c c' v v' g hc hc' hne e e'
  · rw [he _ (by omega)]; exact h.cwr c hc
  · rw [he _ (by omega)]; exact h.cwk c hc
  · rw [he _ (by omega)]; exact h.cbd c hc
theorem RRep.setLeft (h : RRep w rc pg wr wk bd left down half data) (x : Int) : RRep w (rc.setIfInBounds 96 (.int .i64 x)) pg wr wk bd x down half data := by
  have hs := h.size
  refine h.tail (by simpa using hs) (fun i hi => by rw [Array.getElem?_setIfInBounds_ne (by omega)]) (by rw [Array.getElem?_setIfInBounds_self_of_lt (by omega)]) ?_ ?_ ?_
  · rw [Array.getElem?_setIfInBounds_ne (by omega)]; exact h.cdown
  · rw [Array.getElem?_setIfInBounds_ne (by omega)]; exact h.chalf
  · rw [Array.getElem?_setIfInBounds_ne (by omega)]; exact h.cdata
theorem RRep.setDown (h : RRep w rc pg wr wk bd left down half data) (x : Bool) : RRep w (rc.setIfInBounds 97 (.bool x)) pg wr wk bd left x half data := by
  have hs := h.size
  refine h.tail (by simpa using hs) (fun i hi => by rw [Array.getElem?_setIfInBounds_ne (by omega)]) ?_ (by rw [Array.getElem?_setIfInBounds_self_of_lt (by omega)]) ?_ ?_
  · rw [Array.getElem?_setIfInBounds_ne (by omega)]; exact h.cleft
  · rw [Array.getElem?_setIfInBounds_ne (by omega)]; exact h.chalf
  · rw [Array.getElem?_setIfInBounds_ne (by omega)]; exact h.cdata
theorem RRep.setHalf (h : RRep w rc pg wr wk bd left down half data) (x : Int) : RRep w (rc.setIfInBounds 98 (.int .i64 x)) pg wr wk bd left down x data := by
  have hs := h.size
  refine h.tail (by simpa using hs) (fun i hi => by rw [Array.getElem?_setIfInBounds_ne (by omega)]) ?_ ?_ (by rw [Array.getElem?_setIfInBounds_self_of_lt (by omega)]) ?_
  · rw [Array.getElem?_setIfInBounds_ne (by omega)]; exact h.cleft
  · rw [Array.getElem?_setIfInBounds_ne (by omega)]; exact h.cdown
  · rw [Array.getElem?_setIfInBounds_ne (by omega)]; exact h.cdata
theorem RRep.setData (h : RRep w rc pg wr wk bd left down half data) (x : ByteArray) : RRep w (rc.setIfInBounds 99 (.string x)) pg wr wk bd left down half x := by
  have hs := h.size
  refine h.tail (by simpa using hs) (fun i hi => by rw [Array.getElem?_setIfInBounds_ne (by omega)]) ?_ ?_ ?_ (by rw [Array.getElem?_setIfInBounds_self_of_lt (by omega)])
  · rw [Array.getElem?_setIfInBounds_ne (by omega)]; exact h.cleft
  · rw [Array.getElem?_setIfInBounds_ne (by omega)]; exact h.cdown
  · rw [Array.getElem?_setIfInBounds_ne (by omega)]; exact h.chalf
/-- The pages of block b are others. -/
theorem RRep.setPg (h : RRep w rc pg wr wk bd left down half data) {b : Nat} (hb : b < 24) {w' : World} {r : Option Nat} (hg : w.grownBy w' r) (v : Value) (l : List Pg) (hv : w'.ownsRow 0 148 2 v l.length (shCells l)) (hnl : l = [] → v = .slice none 0 0)
    (h1 : ∀ c u g, c < 24 → ¬ c = b → rc[c]? = some u → u.ownBlock = some g → ¬ some g = r) (h2 : ∀ c u g, c < 24 → ¬ c = b → rc[c]? = some u → u.ownBlock = some g → ¬ v.ownBlock = some g) :
    RRep w' (rc.setIfInBounds b v) (upd pg b l) wr wk bd left down half data := by
  have hs := h.size
  refine ⟨by simpa using hs, fun c hc => ?_, fun c c' u u' g hc hc' hne e e' e3 e4 => ?_, fun c hc => ?_, fun c hc => ?_, fun c hc => ?_, ?_, ?_, ?_, ?_⟩
  · by_cases e : c = b
    · subst e; rw [Array.getElem?_setIfInBounds_self_of_lt (by omega), upd_same]; exact ⟨v, rfl, hv, hnl⟩
    · rw [Array.getElem?_setIfInBounds_ne (by omega), upd_other _ _ _ e]
      obtain ⟨u, k1, k2, k3⟩ := h.rows c hc
      exact ⟨u, k1, own_grown k2 hg (fun g hgg => h1 c u g hc e k1 hgg), k3⟩
  · by_cases q : c = b
    · subst q
      rw [Array.getElem?_setIfInBounds_self_of_lt (by omega)] at e
      rw [Array.getElem?_setIfInBounds_ne (by omega)] at e'
      cases e
      exact h2 c' u' g hc' (fun x => hne x.symm) e' e4 e3
    · by_cases q' : c' = b
      · subst q'
        rw [Array.getElem?_setIfInBounds_self_of_lt (by omega)] at e'
        rw [Array.getElem?_setIfInBounds_ne (by omega)] at e
        cases e'
        exact h2 c u g hc q e e3 e4
      · rw [Array.getElem?_setIfInBounds_ne (by omega)] at e e'
        exact h.dis c c' u u' g hc hc' hne e e' e3 e4
  · rw [Array.getElem?_setIfInBounds_ne (by omega)]; exact h.cwr c hc
  · rw [Array.getElem?_setIfInBounds_ne (by omega)]; exact h.cwk c hc
  · rw [Array.getElem?_setIfInBounds_ne (by omega)]; exact h.cbd c hc
  · rw [Array.getElem?_setIfInBounds_ne (by omega)]; exact h.cleft
  · rw [Array.getElem?_setIfInBounds_ne (by omega)]; exact h.cdown
  · rw [Array.getElem?_setIfInBounds_ne (by omega)]; exact h.chalf
  · rw [Array.getElem?_setIfInBounds_ne (by omega)]; exact h.cdata
end
end Go.Proofs.Ytjeinblcpejpnaa
/- The document's chip: NewChip, ready, falls, Weaken, Read. -/
namespace Go.Proofs.Ytjeinblcpejpnaa
open Go.RowKit

set_option maxRecDepth 100000 in
set_option maxHeartbeats 1000000 in
theorem rready_any (rb : Nat) (b : Int) (M : CM) (w : World) (h : RefAt w rb M) :
    Calls Try.prog 93 #[.pointer (some ⟨rb, 0, none⟩), .int .i64 b] w fun e w' => e = .returned (.int .i64 (readyE M b)) ∧ w' = w := by
  obtain ⟨rc, data, h1, h2, h3⟩ := h.cells
  have c97 := h1.cell 97
  rw [h2.cdown] at c97
  cases hd : downB M with
  | true =>
    have HR : Hid (readyE M b = 9) := by unfold readyE Hid; rw [hd]; rfl
    rw [hd] at c97
    go_enter Try.func93, Try.ntmps93
    go_wp2
    go_ret
    exact ⟨by rw [HR.out]; rfl, rfl⟩
  | false =>
    rw [hd] at c97
    by_cases hb : 0 ≤ b ∧ b < 24
    · obtain ⟨hb1, hb2⟩ := hb
      obtain ⟨b, rfl⟩ := Int.eq_ofNat_of_zero_le hb1
      have hb3 : b < 24 := by omega
      have hb4 : ¬ (b : Int) < 0 := by omega
      have c0 := h1.cell (72 + b)
      rw [h2.cbd b hb3] at c0
      cases hx : M.bd b with
      | true =>
        have HR : Hid (readyE M (b : Int) = 7) := by unfold readyE Hid; rw [hd, if_neg (by simp), if_pos ⟨hb1, hb2⟩, Int.toNat_natCast, hx]; rfl
        rw [hx] at c0
        clear hx
        go_enter Try.func93, Try.ntmps93
        go_wp2
        go_ret
        exact ⟨by rw [HR.out]; rfl, rfl⟩
      | false =>
        have HR : Hid (readyE M (b : Int) = 0) := by unfold readyE Hid; rw [hd, if_neg (by simp), if_pos ⟨hb1, hb2⟩, Int.toNat_natCast, hx]; rfl
        rw [hx] at c0
        clear hx
        go_enter Try.func93, Try.ntmps93
        go_wp2
        go_ret
        exact ⟨by rw [HR.out]; rfl, rfl⟩
    · have HR : Hid (readyE M b = 1) := by unfold readyE Hid; rw [hd, if_neg (by simp), if_neg hb]
      by_cases hneg : b < 0
      · clear hb
        go_enter Try.func93, Try.ntmps93
        go_wp2
        go_ret
        exact ⟨by rw [HR.out]; rfl, rfl⟩
      · have h24 : 24 ≤ b := by omega
        clear hb
        go_enter Try.func93, Try.ntmps93
        go_wp2
        go_ret
        exact ⟨by rw [HR.out]; rfl, rfl⟩

set_option maxRecDepth 100000 in
set_option maxHeartbeats 1000000 in
theorem rweaken_any (rb : Nat) (b : Int) (M : CM) (w : World) (h : RefAt w rb M) :
    Calls Try.prog 33 #[.pointer (some ⟨rb, 0, none⟩), .int .i64 b] w fun e w' => e = .returned (.int .i64 (weakenE b)) ∧ RefAt w' rb (weakenM M b) ∧ w.grownBy w' (some rb) := by
  by_cases hb : 2 ≤ b ∧ b < 24
  · have HE : Hid (weakenE b = 0) := by unfold weakenE Hid; rw [if_pos hb]
    have HM : Hid (weakenM M b = { M with wk := upd M.wk b.toNat true }) := by unfold weakenM Hid; rw [if_pos hb]
    obtain ⟨hb1, hb2⟩ := hb
    obtain ⟨b, rfl⟩ := Int.eq_ofNat_of_zero_le (show 0 ≤ b by omega)
    have hb3 : b < 24 := by omega
    have hb0 : (0 : Int) ≤ (b : Int) := by omega
    have hb4 : ¬ (b : Int) < 2 := by omega
    obtain ⟨rc, data, h1, h2, h3⟩ := h.cells
    have c0 := h1.cell (48 + b)
    rw [h2.cwk b hb3] at c0
    have f0 := h1.free (48 + b)
    generalize M.wk b = y at c0
    go_enter Try.func33, Try.ntmps33
    go_wp2
    go_ret
    refine ⟨by rw [HE.out]; rfl, ?_, grow_set _ _ _ _⟩
    rw [HM.out]
    exact ⟨_, data, h1.set _ _, (h2.setWk hb3 true).stays h1 (by decide) (grow_set _ _ _ _), h3⟩
  · have HE : Hid (weakenE b = 1) := by unfold weakenE Hid; rw [if_neg hb]
    have HM : Hid (weakenM M b = M) := by unfold weakenM Hid; rw [if_neg hb]
    by_cases hneg : b < 2
    · clear hb
      go_enter Try.func33, Try.ntmps33
      go_wp2
      go_ret
      exact ⟨by rw [HE.out]; rfl, by rw [HM.out]; exact h, grow_refl _ _⟩
    · have h24 : 24 ≤ b := by omega
      clear hb
      go_enter Try.func33, Try.ntmps33
      go_wp2
      go_ret
      exact ⟨by rw [HE.out]; rfl, by rw [HM.out]; exact h, grow_refl _ _⟩

/-- The machine falls. -/
theorem rfalls_yes (rb : Nat) (rc : Array Value) (w : World) (h1 : Blk w rb rc 60) (h96 : rc[96]? = some (.int .i64 0)) (y : Bool) (h97 : rc[97]? = some (.bool y)) :
    Calls Try.prog 94 #[.pointer (some ⟨rb, 0, none⟩)] w fun e w' => e = .returned (.bool true) ∧ w' = w.setCell ⟨rb, 97, none⟩ (.bool true) := by
  have c96 := h1.cell 96
  rw [h96] at c96
  have c97 := h1.cell 97
  rw [h97] at c97
  have f97 := h1.free 97
  go_enter Try.func94, Try.ntmps94
  go_wp2
  go_ret
  exact ⟨rfl, rfl⟩
theorem max_go {n : Int} (h : ¬ n = 0) : ¬ max n (-1) = 0 := by omega
theorem rfalls_go (rb : Nat) (M : CM) (w : World) (h : RefAt w rb M) (h0 : ¬ M.left = 0) (hub : M.left ≤ 9223372036854775807) :
    Calls Try.prog 94 #[.pointer (some ⟨rb, 0, none⟩)] w fun e w' => e = .returned (.bool false) ∧ RefAt w' rb (tickM M) ∧ w.grownBy w' (some rb) := by
  obtain ⟨rc, data, h1, h2, h3⟩ := h.cells
  have c96 := h1.cell 96
  rw [h2.cleft] at c96
  have f96 := h1.free 96
  by_cases hpos : 0 < M.left
  · have HT : Hid (tickM M = { M with left := M.left - 1 }) := by unfold tickM Hid; rw [if_pos hpos]
    have hm : max M.left (-1) = M.left := by omega
    have HL : Hid (max (M.left - 1) (-1) = M.left - 1) := by unfold Hid; omega
    rw [hm] at c96
    rw [hm] at h2
    have hz : (M.left == 0) = false := by simpa using h0
    generalize hn : M.left = n at *
    go_enter Try.func94, Try.ntmps94
    go_wp2
    go_ret
    refine ⟨rfl, ?_, grow_set _ _ _ _⟩
    rw [HT.out]
    refine ⟨_, data, h1.set _ _, ?_, h3⟩
    have := (h2.setLeft (n - 1)).stays h1 (by decide) (grow_set w rb 96 (.int .i64 (n - 1)))
    show RRep _ _ M.pg M.wr M.wk M.bd (max (n - 1) (-1)) (downB M) (tornN M.pend) data
    rw [HL.out]
    exact this
  · have HT : Hid (tickM M = M) := by unfold tickM Hid; rw [if_neg hpos]
    have hm : max M.left (-1) = -1 := by omega
    rw [hm] at c96
    clear h2 hpos h0 hub hm
    go_enter Try.func94, Try.ntmps94
    go_wp2
    go_ret
    exact ⟨rfl, by rw [HT.out]; exact h, grow_refl _ _⟩

/-- The row of a block's pages. -/
theorem RefAt.row {w : World} {rb : Nat} {M : CM} (h : RefAt w rb M) {b : Nat} (hb : b < 24) :
    ∃ so cap, w.cell? ⟨rb, b, none⟩ = some (.slice so (M.pg b).length cap) ∧ (∀ p q, (M.pg b)[p]? = some q → ∃ g, so = some ⟨g, 0, none⟩ ∧ w.cell? ⟨g, p * 2, none⟩ = (shCell q)[0]? ∧ w.cell? ⟨g, p * 2 + 1, none⟩ = (shCell q)[1]?) := by
  obtain ⟨rc, data, h1, h2, h3⟩ := h.cells
  obtain ⟨v, k1, k2, _⟩ := h2.rows b hb
  have c0 := h1.cell b
  rw [k1] at c0
  rcases k2.2 with ⟨rfl, e0⟩ | ⟨g, cap, cur, rfl, _, hh, hle, _, hcur, htake⟩
  · refine ⟨none, 0, by rw [c0, e0], fun p q hq => ?_⟩
    have := (List.getElem?_eq_some_iff.1 hq).1
    omega
  · refine ⟨_, cap, c0, fun p q hq => ⟨g, rfl, ?_, ?_⟩⟩
    · have hB : Blk w g cur 148 := ⟨hh⟩
      have hp := (List.getElem?_eq_some_iff.1 hq).1
      have e := shCells_get (M.pg b) p 0 q (by omega) hq
      rw [← htake, List.getElem?_take_of_lt (by omega)] at e
      rw [hB.cell, ← e]; simp
    · have hB : Blk w g cur 148 := ⟨hh⟩
      have hp := (List.getElem?_eq_some_iff.1 hq).1
      have e := shCells_get (M.pg b) p 1 q (by omega) hq
      rw [← htake, List.getElem?_take_of_lt (by omega)] at e
      rw [hB.cell, ← e]; simp

set_option maxRecDepth 100000 in
set_option maxHeartbeats 2000000 in
theorem rread_any (rb : Nat) (b p : Int) (M : CM) (w : World) (h : RefAt w rb M) :
    Calls Try.prog 38 #[.pointer (some ⟨rb, 0, none⟩), .int .i64 b, .int .i64 p] w fun e w' => e = .returned (.tuple #[.string (txtL (readR M b p).1), .int .i64 (readR M b p).2]) ∧ w' = w := by
  have hd97 : w.cell? ⟨rb, 97, none⟩ = some (.bool (downB M)) := by
    obtain ⟨rc, data, h1, h2, h3⟩ := h.cells
    rw [h1.cell, h2.cdown]
  cases hd : downB M with
  | true =>
    have HR : Hid (readR M b p = ([], 9)) := by unfold readR Hid; rw [hd]; rfl
    rw [hd] at hd97
    go_enter Try.func38, Try.ntmps38
    go_wp2
    go_ret2
    exact ⟨by rw [HR.out]; rfl, rfl⟩
  | false =>
    rw [hd] at hd97
    by_cases hin : 0 ≤ b ∧ b < 24 ∧ 0 ≤ p ∧ p < 8
    · have HR0 : readR M b p = (match (M.pg b.toNat)[p.toNat]? with | none => ([], 5) | some (.whole d) => (d, 0) | some .torn => ([], 4)) := by
        unfold readR; rw [hd, if_neg (by simp), if_pos hin]; cases (M.pg b.toNat)[p.toNat]? with
        | none => rfl
        | some q => cases q <;> rfl
      obtain ⟨hb1, hb2, hp1, hp2⟩ := hin
      obtain ⟨b, rfl⟩ := Int.eq_ofNat_of_zero_le hb1
      obtain ⟨p, rfl⟩ := Int.eq_ofNat_of_zero_le hp1
      rw [Int.toNat_natCast, Int.toNat_natCast] at HR0
      have hb3 : b < 24 := by omega
      have hb4 : ¬ (b : Int) < 0 := by omega
      have hp4 : ¬ (p : Int) < 0 := by omega
      obtain ⟨so, cap, c0, hrow⟩ := h.row hb3
      cases hq : (M.pg b)[p]? with
      | none =>
        have HR : Hid (readR M (b : Int) (p : Int) = ([], 5)) := by unfold Hid; rw [HR0, hq]
        have hlen : ((M.pg b).length : Int) ≤ (p : Int) := by
          have := List.getElem?_eq_none_iff.1 hq; omega
        clear hrow HR0 hq
        go_enter Try.func38, Try.ntmps38
        go_wp2
        go_ret2
        exact ⟨by rw [HR.out]; rfl, rfl⟩
      | some q =>
        have hlen : (p : Int) < ((M.pg b).length : Int) := by
          have := (List.getElem?_eq_some_iff.1 hq).1; omega
        obtain ⟨g, rfl, g0, g1⟩ := hrow p q hq
        cases q with
        | torn =>
          have HR : Hid (readR M (b : Int) (p : Int) = ([], 4)) := by unfold Hid; rw [HR0, hq]
          simp only [shCell, List.getElem?_cons_zero, List.getElem?_cons_succ] at g0 g1
          clear hrow HR0 hq
          go_enter Try.func38, Try.ntmps38
          go_wp2
          go_ret2
          exact ⟨by rw [HR.out]; rfl, rfl⟩
        | whole d =>
          have HR : Hid (readR M (b : Int) (p : Int) = (d, 0)) := by unfold Hid; rw [HR0, hq]
          simp only [shCell, List.getElem?_cons_zero, List.getElem?_cons_succ] at g0 g1
          clear hrow HR0 hq
          go_enter Try.func38, Try.ntmps38
          go_wp2
          go_ret2
          exact ⟨by rw [HR.out]; rfl, rfl⟩
    · have HR : Hid (readR M b p = ([], 1)) := by unfold readR Hid; rw [hd, if_neg (by simp), if_neg hin]
      by_cases q1 : b < 0
      · clear hin
        go_enter Try.func38, Try.ntmps38
        go_wp2
        go_ret2
        exact ⟨by rw [HR.out]; rfl, rfl⟩
      · by_cases q2 : 24 ≤ b
        · clear hin
          go_enter Try.func38, Try.ntmps38
          go_wp2
          go_ret2
          exact ⟨by rw [HR.out]; rfl, rfl⟩
        · by_cases q3 : p < 0
          · clear hin
            go_enter Try.func38, Try.ntmps38
            go_wp2
            go_ret2
            exact ⟨by rw [HR.out]; rfl, rfl⟩
          · have q4 : 8 ≤ p := by omega
            clear hin
            go_enter Try.func38, Try.ntmps38
            go_wp2
            go_ret2
            exact ⟨by rw [HR.out]; rfl, rfl⟩

def zRef : List Value := List.replicate 24 (.slice none 0 0) ++ (List.replicate 24 (.int .i64 0) ++ (List.replicate 48 (.bool false) ++ [.int .i64 0, .bool false, .int .i64 0, .string ⟨#[]⟩]))
def Z60 : Array Value := zRef.toArray
def N60 : Array Value := Z60.setIfInBounds 96 (.int .i64 (-1))
set_option maxRecDepth 100000 in
theorem zero60 (w : World) : (zeroValue 60).run Try.prog w = .ok (.agg Z60) w := by kernel_rfl
theorem zRef_a (b : Nat) (h : b < 24) : zRef[b]? = some (.slice none 0 0) := by
  unfold zRef
  rw [List.getElem?_append_left (by simp; omega), List.getElem?_replicate, if_pos h]
theorem zRef_b (b : Nat) (h : b < 24) : zRef[24 + b]? = some (.int .i64 0) := by
  unfold zRef
  rw [List.getElem?_append_right (by simp), List.length_replicate, show 24 + b - 24 = b by omega, List.getElem?_append_left (by simp; omega), List.getElem?_replicate, if_pos h]
theorem zRef_c (b : Nat) (h : b < 48) : zRef[48 + b]? = some (.bool false) := by
  unfold zRef
  rw [List.getElem?_append_right (by simp; omega), List.length_replicate, List.getElem?_append_right (by simp; omega), List.length_replicate, show 48 + b - 24 - 24 = b by omega, List.getElem?_append_left (by simp; omega), List.getElem?_replicate, if_pos h]
theorem Z60_size : Z60.size = 100 := by unfold Z60 zRef; simp
theorem N60_get (i : Nat) (h : ¬ i = 96) : N60[i]? = zRef[i]? := by
  unfold N60 Z60
  rw [Array.getElem?_setIfInBounds_ne (by omega)]; simp
theorem newRRep (w : World) : RRep w N60 newM.pg newM.wr newM.wk newM.bd (max newM.left (-1)) (downB newM) (tornN newM.pend) ⟨#[]⟩ := by
  have hz := Z60_size
  refine ⟨by unfold N60; simpa using hz, fun b hb => ⟨.slice none 0 0, ?_, ⟨rfl, .inl ⟨rfl, rfl⟩⟩, fun _ => rfl⟩, fun b b' v v' g hb hb' _ e e' e3 => ?_, fun b hb => ?_, fun b hb => ?_, fun b hb => ?_, ?_, ?_, ?_, ?_⟩
  · rw [N60_get _ (by omega), zRef_a b hb]
  · rw [N60_get _ (by omega), zRef_a b hb] at e; cases e; cases e3
  · rw [N60_get _ (by omega), zRef_b b hb]; rfl
  · rw [N60_get _ (by omega), zRef_c b (by omega)]; rfl
  · rw [N60_get _ (by omega), show 72 + b = 48 + (24 + b) by omega, zRef_c _ (by omega)]; rfl
  · unfold N60; rw [Array.getElem?_setIfInBounds_self_of_lt (by omega)]; rfl
  · rw [N60_get _ (by omega)]; rfl
  · rw [N60_get _ (by omega)]; rfl
  · rw [N60_get _ (by omega)]; rfl
theorem Z60_ne : (Z60 = #[]) = False := by
  simp only [eq_iff_iff, iff_false]
  intro h
  have := Z60_size
  rw [h] at this; simp at this
theorem Z60_set : Z60.setIfInBounds 96 (.int .i64 (-1)) = N60 := rfl
set_option maxRecDepth 100000 in
set_option maxHeartbeats 1000000 in
theorem rnew_any (w : World) : Calls Try.prog 27 #[] w fun e w' => e = .returned (.pointer (some ⟨w.heap.size, 0, none⟩)) ∧ RefAt w' w.heap.size newM ∧ Ext w w' ∧ w'.heap.size = w.heap.size + 1 := by
  have z0 := zero60
  have z1 := Z60_ne
  have z2 := Z60_set
  go_enter Try.func27, Try.ntmps27
  go_wp2
  go_ret
  exact ⟨rfl, ⟨N60, ⟨#[]⟩, Blk.new _ _ _, newRRep _, fun b d e => by cases e⟩, (Ext.refl _).alloc _, by simp⟩

end Go.Proofs.Ytjeinblcpejpnaa
