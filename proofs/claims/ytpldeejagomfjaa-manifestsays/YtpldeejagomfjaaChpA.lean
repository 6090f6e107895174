
/- The chip in plain words, and how it lies in memory. -/
import Derived.Test.YtpldeejagomfjaaEntE
import Derived.Deep.QuietTactic
import Derived.BigQuiet
import Derived.Test.YtpldeejagomfjaaWld
import Derived.Deep.MidRow
namespace Go.Proofs.Ytpldeejagomfjaa
open Go.RowKit

/-- A page that isn't blank. -/
inductive Pg where
  | whole (d : List UInt8)
  | torn
/-- A step in which the machine fell. -/
inductive Pend where
  | write (b : Nat) (d : List UInt8)
  | erase (b : Nat)
/-- A chip. -/
structure CM where
  pg : Nat → List Pg
  wr : Nat → Nat
  wk : Nat → Bool
  bd : Nat → Bool
  left : Int
  pend : Option Pend

def upd {α : Type} (f : Nat → α) (b : Nat) (x : α) : Nat → α := fun c => if c = b then x else f c
theorem upd_same {α : Type} (f : Nat → α) (b : Nat) (x : α) : upd f b x b = x := by simp [upd]
theorem upd_other {α : Type} (f : Nat → α) (b : Nat) (x : α) {c : Nat} (h : ¬ c = b) : upd f b x c = f c := by simp [upd, h]

def stPg : Option Pg → Int
  | none => 0
  | some (.whole _) => 1
  | some .torn => 2
def stOf (l : List Pg) (p : Nat) : Int := stPg l[p]?

/-- Block b of the chip's cells. -/
structure BRep (cs : Array Value) (b : Nat) (l : List Pg) (wr : Nat) (wk bd : Bool) : Prop where
  st : ∀ p : Nat, p < 8 → cs[b * 524 + p * 65]? = some (.int .i64 (stOf l p))
  dat : ∀ (p : Nat) (d : List UInt8), p < 8 → l[p]? = some (Pg.whole d) → ∀ (j : Nat) (x : UInt8), d[j]? = some x → cs[b * 524 + p * 65 + 1 + j]? = some (.int .u8 (x.toNat : Int))
  nx : cs[b * 524 + 520]? = some (.int .i64 (l.length : Int))
  cwr : cs[b * 524 + 521]? = some (.int .i64 (wr : Int))
  cwk : cs[b * 524 + 522]? = some (.bool wk)
  cbd : cs[b * 524 + 523]? = some (.bool bd)
  len8 : l.length ≤ 8
  d64 : ∀ (p : Nat) (d : List UInt8), l[p]? = some (Pg.whole d) → d.length = 64
/-- The chip's cells. -/
structure Rep (cs : Array Value) (M : CM) (fv : Value) : Prop where
  size : cs.size = 12578
  blk : ∀ b, b < 24 → BRep cs b (M.pg b) (M.wr b) (M.wk b) (M.bd b)
  left : cs[12576]? = some (.int .i64 M.left)
  fell : cs[12577]? = some fv

theorem BRep.congr {cs cs' : Array Value} {b : Nat} {l : List Pg} {wr : Nat} {wk bd : Bool} (h : BRep cs b l wr wk bd) (he : ∀ i, b * 524 ≤ i → i < b * 524 + 524 → cs'[i]? = cs[i]?) : BRep cs' b l wr wk bd := by
  refine ⟨fun p hp => ?_, fun p d hp hd j x hx => ?_, ?_, ?_, ?_, ?_, h.len8, h.d64⟩
  · rw [he _ (by omega) (by omega)]; exact h.st p hp
  · have h64 := h.d64 p d hd
    have hj : j < d.length := (List.getElem?_eq_some_iff.1 hx).1
    rw [he _ (by omega) (by omega)]; exact h.dat p d hp hd j x hx
  · rw [he _ (by omega) (by omega)]; exact h.nx
  · rw [he _ (by omega) (by omega)]; exact h.cwr
  · rw [he _ (by omega) (by omega)]; exact h.cwk
  · rw [he _ (by omega) (by omega)]; exact h.cbd

/-- One block of a chip is another one. -/
theorem Rep.block {cs cs' : Array Value} {M : CM} {fv : Value} (h : Rep cs M fv) {b : Nat} {l : List Pg} {wr : Nat} {wk bd : Bool} (hb : b < 24) (hs : cs'.size = cs.size)
    (ho : ∀ i, (i < b * 524 ∨ b * 524 + 524 ≤ i) → cs'[i]? = cs[i]?) (hn : BRep cs' b l wr wk bd) :
    Rep cs' { M with pg := upd M.pg b l, wr := upd M.wr b wr, wk := upd M.wk b wk, bd := upd M.bd b bd } fv := by
  refine ⟨by rw [hs]; exact h.size, fun c hc => ?_, ?_, ?_⟩
  · by_cases e : c = b
    · subst e; simp only [upd_same]; exact hn
    · simp only [upd_other _ _ _ e]
      exact (h.blk c hc).congr (fun i h1 h2 => ho i (by omega))
  · rw [ho _ (by omega)]; exact h.left
  · rw [ho _ (by omega)]; exact h.fell
theorem Rep.setLeft {cs : Array Value} {M : CM} {fv : Value} (h : Rep cs M fv) (n : Int) : Rep (cs.setIfInBounds 12576 (.int .i64 n)) { M with left := n } fv := by
  have hs := h.size
  refine ⟨by simpa using hs, fun c hc => (h.blk c hc).congr (fun i h1 h2 => ?_), ?_, ?_⟩
  · rw [Array.getElem?_setIfInBounds_ne (by omega)]
  · rw [Array.getElem?_setIfInBounds_self_of_lt (by omega)]
  · rw [Array.getElem?_setIfInBounds_ne (by omega)]; exact h.fell
theorem Rep.setFell {cs : Array Value} {M : CM} {fv : Value} (h : Rep cs M fv) (v : Value) (p : Option Pend) : Rep (cs.setIfInBounds 12577 v) { M with pend := p } v := by
  have hs := h.size
  refine ⟨by simpa using hs, fun c hc => (h.blk c hc).congr (fun i h1 h2 => ?_), ?_, ?_⟩
  · rw [Array.getElem?_setIfInBounds_ne (by omega)]
  · rw [Array.getElem?_setIfInBounds_ne (by omega)]; exact h.left
  · rw [Array.getElem?_setIfInBounds_self_of_lt (by omega)]
theorem BRep.setWk {cs : Array Value} {b : Nat} {l : List Pg} {wr : Nat} {wk bd : Bool} (h : BRep cs b l wr wk bd) (hs : b * 524 + 524 ≤ cs.size) (x : Bool) : BRep (cs.setIfInBounds (b * 524 + 522) (.bool x)) b l wr x bd := by
  refine ⟨fun p hp => ?_, fun p d hp hd j y hx => ?_, ?_, ?_, ?_, ?_, h.len8, h.d64⟩
  · rw [Array.getElem?_setIfInBounds_ne (by omega)]; exact h.st p hp
  · have h64 := h.d64 p d hd
    have hj : j < d.length := (List.getElem?_eq_some_iff.1 hx).1
    rw [Array.getElem?_setIfInBounds_ne (by omega)]; exact h.dat p d hp hd j y hx
  · rw [Array.getElem?_setIfInBounds_ne (by omega)]; exact h.nx
  · rw [Array.getElem?_setIfInBounds_ne (by omega)]; exact h.cwr
  · rw [Array.getElem?_setIfInBounds_self_of_lt (by omega)]
  · rw [Array.getElem?_setIfInBounds_ne (by omega)]; exact h.cbd
theorem BRep.setBd {cs : Array Value} {b : Nat} {l : List Pg} {wr : Nat} {wk bd : Bool} (h : BRep cs b l wr wk bd) (hs : b * 524 + 524 ≤ cs.size) (x : Bool) : BRep (cs.setIfInBounds (b * 524 + 523) (.bool x)) b l wr wk x := by
  refine ⟨fun p hp => ?_, fun p d hp hd j y hx => ?_, ?_, ?_, ?_, ?_, h.len8, h.d64⟩
  · rw [Array.getElem?_setIfInBounds_ne (by omega)]; exact h.st p hp
  · have h64 := h.d64 p d hd
    have hj : j < d.length := (List.getElem?_eq_some_iff.1 hx).1
    rw [Array.getElem?_setIfInBounds_ne (by omega)]; exact h.dat p d hp hd j y hx
  · rw [Array.getElem?_setIfInBounds_ne (by omega)]; exact h.nx
  · rw [Array.getElem?_setIfInBounds_ne (by omega)]; exact h.cwr
  · rw [Array.getElem?_setIfInBounds_ne (by omega)]; exact h.cwk
  · rw [Array.getElem?_setIfInBounds_self_of_lt (by omega)]

/-- Cells put over others, from o on. -/
def putAt : Array Value → Nat → List Value → Array Value
  | cs, _, [] => cs
  | cs, o, v :: r => putAt (cs.setIfInBounds o v) (o + 1) r
theorem putAt_size (l : List Value) : ∀ (cs : Array Value) (o : Nat), (putAt cs o l).size = cs.size := by
  induction l with
  | nil => intro cs o; rfl
  | cons v r ih => intro cs o; simp only [putAt]; rw [ih]; simp
theorem putAt_out (l : List Value) : ∀ (cs : Array Value) (o i : Nat), (i < o ∨ o + l.length ≤ i) → (putAt cs o l)[i]? = cs[i]? := by
  induction l with
  | nil => intro cs o i _; rfl
  | cons v r ih =>
    intro cs o i h
    simp only [List.length_cons] at h
    simp only [putAt]
    rw [ih _ _ _ (by omega), Array.getElem?_setIfInBounds_ne (by omega)]
theorem putAt_in (l : List Value) : ∀ (cs : Array Value) (o j : Nat), o + l.length ≤ cs.size → j < l.length → (putAt cs o l)[o + j]? = l[j]? := by
  induction l with
  | nil => intro cs o j _ h; simp at h
  | cons v r ih =>
    intro cs o j hs h
    simp only [List.length_cons] at h hs
    simp only [putAt]
    cases j with
    | zero =>
      show (putAt (cs.setIfInBounds o v) (o + 1) r)[o]? = some v
      rw [putAt_out _ _ _ _ (by omega), Array.getElem?_setIfInBounds_self_of_lt (by omega)]
    | succ j => rw [show o + (j + 1) = o + 1 + j by omega, ih _ _ _ (by simpa using (by omega)) (by omega)]; simp
theorem Blk.setCells {b : Nat} {t : TypeId} (l : List Value) : ∀ {w : World} {cs : Array Value} (_ : Blk w b cs t) (o : Nat), Blk (w.setCells b o l) b (putAt cs o l) t := by
  induction l with
  | nil => intro w cs h o; exact h
  | cons v r ih => intro w cs h o; exact ih (h.set o v) (o + 1)
theorem Blk.there {w : World} {b : Nat} {cs : Array Value} {t : TypeId} (h : Blk w b cs t) {o n : Nat} (hn : o + n ≤ cs.size) : w.there b o n := by
  intro j hj
  refine ⟨?_, h.free _⟩
  rw [h.cell, Array.getElem?_eq_getElem (by omega)]; rfl
theorem grow_setCells {b : Nat} (l : List Value) : ∀ {w : World} (o : Nat), w.grownBy (w.setCells b o l) (some b) := by
  induction l with
  | nil => intro w o; exact ⟨rfl, rfl, rfl, Nat.le_refl _, fun _ _ _ => rfl⟩
  | cons v r ih =>
    intro w o
    have h1 : w.grownBy (w.setCell ⟨b, o, none⟩ v) (some b) := ⟨rfl, rfl, rfl, by simp [World.setCell], fun k _ hne => Below.heap_setCell _ _ _ _ (fun e => hne (by rw [e]))⟩
    have h2 := ih (w := w.setCell ⟨b, o, none⟩ v) (o + 1)
    exact ⟨h2.os.trans h1.os, h2.tape.trans h1.tape, h2.output.trans h1.output, Nat.le_trans h1.size h2.size, fun k hk hne => (h2.block k (Nat.lt_of_lt_of_le hk h1.size) hne).trans (h1.block k hk hne)⟩

/-- A page's cells. -/
def pgCells : Pg → List Value
  | .whole d => .int .i64 1 :: d.map fun x => .int .u8 (x.toNat : Int)
  | .torn => .int .i64 2 :: List.replicate 64 (.int .u8 0)

set_option maxRecDepth 10000 in
theorem BRep.lay {cs : Array Value} {b : Nat} {l : List Pg} {wr : Nat} {wk bd : Bool} (h : BRep cs b l wr wk bd) (hs : b * 524 + 524 ≤ cs.size) (p : Pg) (hl : l.length < 8) (hp : ∀ d, p = .whole d → d.length = 64) :
    BRep ((putAt cs (b * 524 + l.length * 65) (pgCells p)).setIfInBounds (b * 524 + 520) (.int .i64 ((l.length : Int) + 1))) b (l ++ [p]) wr wk bd := by
  have hlen : (pgCells p).length = 65 := by
    cases p with
    | whole d => simp [pgCells, hp d rfl]
    | torn => simp [pgCells]
  have hps : (putAt cs (b * 524 + l.length * 65) (pgCells p)).size = cs.size := putAt_size _ _ _
  refine ⟨fun q hq => ?_, fun q d hq hd j y hx => ?_, ?_, ?_, ?_, ?_, by simp; omega, fun q d hd => ?_⟩
  · rw [Array.getElem?_setIfInBounds_ne (by omega)]
    by_cases e : q = l.length
    · subst e
      have := putAt_in (pgCells p) cs (b * 524 + l.length * 65) 0 (by omega) (by omega)
      rw [Nat.add_zero] at this
      rw [this]
      simp only [stOf, List.getElem?_concat_length]
      cases p <;> rfl
    · rw [putAt_out _ _ _ _ (by omega)]
      have := h.st q hq
      rw [this]
      simp only [stOf]
      by_cases e2 : q < l.length
      · rw [List.getElem?_append_left e2]
      · rw [List.getElem?_eq_none (by omega), List.getElem?_eq_none (by simp; omega)]
  · by_cases e : q = l.length
    · subst e
      simp only [List.getElem?_concat_length, Option.some.injEq] at hd
      subst hd
      have hd64 := hp d rfl
      have hj : j < d.length := (List.getElem?_eq_some_iff.1 hx).1
      rw [Array.getElem?_setIfInBounds_ne (by omega)]
      have := putAt_in (pgCells (.whole d)) cs (b * 524 + l.length * 65) (1 + j) (by omega) (by omega)
      rw [show b * 524 + l.length * 65 + 1 + j = b * 524 + l.length * 65 + (1 + j) by omega, this]
      rw [Nat.add_comm 1 j]
      simp [pgCells, hx]
    · have hlt : q < l.length := by
        have := (List.getElem?_eq_some_iff.1 hd).1
        simp at this; omega
      rw [List.getElem?_append_left hlt] at hd
      have h64 := h.d64 q d hd
      have hj : j < d.length := (List.getElem?_eq_some_iff.1 hx).1
      rw [Array.getElem?_setIfInBounds_ne (by omega), putAt_out _ _ _ _ (by omega)]
      exact h.dat q d hq hd j y hx
  · rw [Array.getElem?_setIfInBounds_self_of_lt (by omega)]; simp
  · rw [Array.getElem?_setIfInBounds_ne (by omega), putAt_out _ _ _ _ (by omega)]; exact h.cwr
  · rw [Array.getElem?_setIfInBounds_ne (by omega), putAt_out _ _ _ _ (by omega)]; exact h.cwk
  · rw [Array.getElem?_setIfInBounds_ne (by omega), putAt_out _ _ _ _ (by omega)]; exact h.cbd
  · by_cases e : q < l.length
    · rw [List.getElem?_append_left e] at hd; exact h.d64 q d hd
    · by_cases e2 : q = l.length
      · subst e2
        simp only [List.getElem?_concat_length, Option.some.injEq] at hd
        exact hp d hd
      · rw [List.getElem?_eq_none (by simp; omega)] at hd; simp at hd

end Go.Proofs.Ytpldeejagomfjaa
