/- ChpA ChpB ChpC. -/
import Derived.Test.YtkibgflbidkalaaGreatDoorEntEJ
import Derived.Deep.QuietTactic
import Derived.BigQuiet
import Derived.Test.YtkibgflbidkalaaGreatDoorWldJ
import Derived.Deep.MidRow

/- The chip in plain words, and how it lies in memory. -/
namespace Go.Proofs.YtkibgflbidkalaaGreatDoor
open Go.RowKit

inductive Pg where
  | whole (d : List UInt8)
  | torn
inductive Pend where
  | write (b : Nat) (d : List UInt8)
  | erase (b : Nat)
structure CM where
  pg : Nat → List Pg
  wr : Nat → Nat
  wk : Nat → Bool
  bd : Nat → Bool
  left : Int
  pend : Option Pend

def upd {α : Type} (f : Nat → α) (b : Nat) (x : α) : Nat → α := fun c => if c = b then x else f c
theorem upd_same {α : Type} (f : Nat → α) (b : Nat) (x : α) : upd f b x b = x := by simp [upd]
theorem upd_other {α : Type} (f : Nat → α) (b : Nat) (x : α) {c : Nat} (h : ¬ c = b) : upd f b x c = f c := by simp [upd, h]

def stPg : Option Pg → Int
  | none => 0
  | some (.whole _) => 1
  | some .torn => 2
def stOf (l : List Pg) (p : Nat) : Int := stPg l[p]?

structure BRep (cs : Array Value) (b : Nat) (l : List Pg) (wr : Nat) (wk bd : Bool) : Prop where
  st : ∀ p : Nat, p < 8 → cs[b * 524 + p * 65]? = some (.int .i64 (stOf l p))
  dat : ∀ (p : Nat) (d : List UInt8), p < 8 → l[p]? = some (Pg.whole d) → ∀ (j : Nat) (x : UInt8), d[j]? = some x → cs[b * 524 + p * 65 + 1 + j]? = some (.int .u8 (x.toNat : Int))
  nx : cs[b * 524 + 520]? = some (.int .i64 (l.length : Int))
  cwr : cs[b * 524 + 521]? = some (.int .i64 (wr : Int))
  cwk : cs[b * 524 + 522]? = some (.bool wk)
  cbd : cs[b * 524 + 523]? = some (.bool bd)
  len8 : l.length ≤ 8
  d64 : ∀ (p : Nat) (d : List UInt8), l[p]? = some (Pg.whole d) → d.length = 64
structure Rep (cs : Array Value) (M : CM) (fv : Value) : Prop where
  size : cs.size = 12578
  blk : ∀ b, b < 24 → BRep cs b (M.pg b) (M.wr b) (M.wk b) (M.bd b)
  left : cs[12576]? = some (.int .i64 M.left)
  fell : cs[12577]? = some fv

theorem BRep.congr {cs cs' : Array Value} {b : Nat} {l : List Pg} {wr : Nat} {wk bd : Bool} (h : BRep cs b l wr wk bd) (he : ∀ i, b * 524 ≤ i → i < b * 524 + 524 → cs'[i]? = cs[i]?) : BRep cs' b l wr wk bd := by
  refine ⟨fun p hp => ?_, fun p d hp hd j x hx => ?_, ?_, ?_, ?_, ?_, h.len8, h.d64⟩
  · rw [he _ (by omega) (by omega)]; exact h.st p hp
  · have h64 := h.d64 p d hd
    have hj : j < d.length := (List.getElem?_eq_some_iff.1 hx).1
    rw [he _ (by omega) (by omega)]; exact h.dat p d hp hd j x hx
  · rw [he _ (by omega) (by omega)]; exact h.nx
  · rw [he _ (by omega) (by omega)]; exact h.cwr
  · rw [he _ (by omega) (by omega)]; exact h.cwk
  · rw [he _ (by omega) (by omega)]; exact h.cbd

theorem Rep.block {cs cs' : Array Value} {M : CM} {fv : Value} (h : Rep cs M fv) {b : Nat} {l : List Pg} {wr : Nat} {wk bd : Bool} (hb : b < 24) (hs : cs'.size = cs.size)
    (ho : ∀ i, (i < b * 524 ∨ b * 524 + 524 ≤ i) → cs'[i]? = cs[i]?) (hn : BRep cs' b l wr wk bd) :
    Rep cs' { M with pg := upd M.pg b l, wr := upd M.wr b wr, wk := upd M.wk b wk, bd := upd M.bd b bd } fv := by
  refine ⟨by rw [hs]; exact h.size, fun c hc => ?_, ?_, ?_⟩
  · by_cases e : c = b
    · subst e; simp only [upd_same]; exact hn
    · simp only [upd_other _ _ _ e]
      exact (h.blk c hc).congr (fun i h1 h2 => ho i (by omega))
  · rw [ho _ (by omega)]; exact h.left
  · rw [ho _ (by omega)]; exact h.fell
theorem Rep.setLeft {cs : Array Value} {M : CM} {fv : Value} (h : Rep cs M fv) (n : Int) : Rep (cs.setIfInBounds 12576 (.int .i64 n)) { M with left := n } fv := by
  have hs := h.size
  refine ⟨by simpa using hs, fun c hc => (h.blk c hc).congr (fun i h1 h2 => ?_), ?_, ?_⟩
  · rw [Array.getElem?_setIfInBounds_ne (by omega)]
  · rw [Array.getElem?_setIfInBounds_self_of_lt (by omega)]
  · rw [Array.getElem?_setIfInBounds_ne (by omega)]; exact h.fell
theorem Rep.setFell {cs : Array Value} {M : CM} {fv : Value} (h : Rep cs M fv) (v : Value) (p : Option Pend) : Rep (cs.setIfInBounds 12577 v) { M with pend := p } v := by
  have hs := h.size
  refine ⟨by simpa using hs, fun c hc => (h.blk c hc).congr (fun i h1 h2 => ?_), ?_, ?_⟩
  · rw [Array.getElem?_setIfInBounds_ne (by omega)]
  · rw [Array.getElem?_setIfInBounds_ne (by omega)]; exact h.left
  · rw [Array.getElem?_setIfInBounds_self_of_lt (by omega)]
theorem BRep.setBd {cs : Array Value} {b : Nat} {l : List Pg} {wr : Nat} {wk bd : Bool} (h : BRep cs b l wr wk bd) (hs : b * 524 + 524 ≤ cs.size) (x : Bool) : BRep (cs.setIfInBounds (b * 524 + 523) (.bool x)) b l wr wk x := by
  refine ⟨fun p hp => ?_, fun p d hp hd j y hx => ?_, ?_, ?_, ?_, ?_, h.len8, h.d64⟩
  · rw [Array.getElem?_setIfInBounds_ne (by omega)]; exact h.st p hp
  · have h64 := h.d64 p d hd
    have hj : j < d.length := (List.getElem?_eq_some_iff.1 hx).1
    rw [Array.getElem?_setIfInBounds_ne (by omega)]; exact h.dat p d hp hd j y hx
  · rw [Array.getElem?_setIfInBounds_ne (by omega)]; exact h.nx
  · rw [Array.getElem?_setIfInBounds_ne (by omega)]; exact h.cwr
  · rw [Array.getElem?_setIfInBounds_ne (by omega)]; exact h.cwk
  · rw [Array.getElem?_setIfInBounds_self_of_lt (by omega)]

def putAt : Array Value → Nat → List Value → Array Value
  | cs, _, [] => cs
  | cs, o, v :: r => putAt (cs.setIfInBounds o v) (o + 1) r
theorem putAt_size (l : List Value) : ∀ (cs : Array Value) (o : Nat), (putAt cs o l).size = cs.size := by
  induction l with
  | nil => intro cs o; rfl
  | cons v r ih => intro cs o; simp only [putAt]; rw [ih]; simp
theorem putAt_out (l : List Value) : ∀ (cs : Array Value) (o i : Nat), (i < o ∨ o + l.length ≤ i) → (putAt cs o l)[i]? = cs[i]? := by
  induction l with
  | nil => intro cs o i _; rfl
  | cons v r ih =>
    intro cs o i h
    simp only [List.length_cons] at h
    simp only [putAt]
    rw [ih _ _ _ (by omega), Array.getElem?_setIfInBounds_ne (by omega)]
theorem putAt_in (l : List Value) : ∀ (cs : Array Value) (o j : Nat), o + l.length ≤ cs.size → j < l.length → (putAt cs o l)[o + j]? = l[j]? := by
  induction l with
  | nil => intro cs o j _ h; simp at h
  | cons v r ih =>
    intro cs o j hs h
    simp only [List.length_cons] at h hs
    simp only [putAt]
    cases j with
    | zero =>
      show (putAt (cs.setIfInBounds o v) (o + 1) r)[o]? = some v
      rw [putAt_out _ _ _ _ (by omega), Array.getElem?_setIfInBounds_self_of_lt (by omega)]
    | succ j => rw [show o + (j + 1) = o + 1 + j by omega, ih _ _ _ (by simpa using (by omega)) (by omega)]; simp
theorem Blk.setCells {b : Nat} {t : TypeId} (l : List Value) : ∀ {w : World} {cs : Array Value} (_ : Blk w b cs t) (o : Nat), Blk (w.setCells b o l) b (putAt cs o l) t := by
  induction l with
  | nil => intro w cs h o; exact h
  | cons v r ih => intro w cs h o; exact ih (h.set o v) (o + 1)
theorem Blk.there {w : World} {b : Nat} {cs : Array Value} {t : TypeId} (h : Blk w b cs t) {o n : Nat} (hn : o + n ≤ cs.size) : w.there b o n := by
  intro j hj
  refine ⟨?_, h.free _⟩
  rw [h.cell, Array.getElem?_eq_getElem (by omega)]; rfl
theorem grow_setCells {b : Nat} (l : List Value) : ∀ {w : World} (o : Nat), w.grownBy (w.setCells b o l) (some b) := by
  induction l with
  | nil => intro w o; exact ⟨rfl, rfl, rfl, Nat.le_refl _, fun _ _ _ => rfl⟩
  | cons v r ih =>
    intro w o
    have h1 : w.grownBy (w.setCell ⟨b, o, none⟩ v) (some b) := ⟨rfl, rfl, rfl, by simp [World.setCell], fun k _ hne => Below.heap_setCell _ _ _ _ (fun e => hne (by rw [e]))⟩
    have h2 := ih (w := w.setCell ⟨b, o, none⟩ v) (o + 1)
    exact ⟨h2.os.trans h1.os, h2.tape.trans h1.tape, h2.output.trans h1.output, Nat.le_trans h1.size h2.size, fun k hk hne => (h2.block k (Nat.lt_of_lt_of_le hk h1.size) hne).trans (h1.block k hk hne)⟩

def pgCells : Pg → List Value
  | .whole d => .int .i64 1 :: d.map fun x => .int .u8 (x.toNat : Int)
  | .torn => .int .i64 2 :: List.replicate 64 (.int .u8 0)

set_option maxRecDepth 10000 in
theorem BRep.lay {cs : Array Value} {b : Nat} {l : List Pg} {wr : Nat} {wk bd : Bool} (h : BRep cs b l wr wk bd) (hs : b * 524 + 524 ≤ cs.size) (p : Pg) (hl : l.length < 8) (hp : ∀ d, p = .whole d → d.length = 64) :
    BRep ((putAt cs (b * 524 + l.length * 65) (pgCells p)).setIfInBounds (b * 524 + 520) (.int .i64 ((l.length : Int) + 1))) b (l ++ [p]) wr wk bd := by
  have hlen : (pgCells p).length = 65 := by
    cases p with
    | whole d => simp [pgCells, hp d rfl]
    | torn => simp [pgCells]
  have hps : (putAt cs (b * 524 + l.length * 65) (pgCells p)).size = cs.size := putAt_size _ _ _
  refine ⟨fun q hq => ?_, fun q d hq hd j y hx => ?_, ?_, ?_, ?_, ?_, by simp; omega, fun q d hd => ?_⟩
  · rw [Array.getElem?_setIfInBounds_ne (by omega)]
    by_cases e : q = l.length
    · subst e
      have := putAt_in (pgCells p) cs (b * 524 + l.length * 65) 0 (by omega) (by omega)
      rw [Nat.add_zero] at this
      rw [this]
      simp only [stOf, List.getElem?_concat_length]
      cases p <;> rfl
    · rw [putAt_out _ _ _ _ (by omega)]
      have := h.st q hq
      rw [this]
      simp only [stOf]
      by_cases e2 : q < l.length
      · rw [List.getElem?_append_left e2]
      · rw [List.getElem?_eq_none (by omega), List.getElem?_eq_none (by simp; omega)]
  · by_cases e : q = l.length
    · subst e
      simp only [List.getElem?_concat_length, Option.some.injEq] at hd
      subst hd
      have hd64 := hp d rfl
      have hj : j < d.length := (List.getElem?_eq_some_iff.1 hx).1
      rw [Array.getElem?_setIfInBounds_ne (by omega)]
      have := putAt_in (pgCells (.whole d)) cs (b * 524 + l.length * 65) (1 + j) (by omega) (by omega)
      rw [show b * 524 + l.length * 65 + 1 + j = b * 524 + l.length * 65 + (1 + j) by omega, this]
      rw [Nat.add_comm 1 j]
      simp [pgCells, hx]
    · have hlt : q < l.length := by
        have := (List.getElem?_eq_some_iff.1 hd).1
        simp at this; omega
      rw [List.getElem?_append_left hlt] at hd
      have h64 := h.d64 q d hd
      have hj : j < d.length := (List.getElem?_eq_some_iff.1 hx).1
      rw [Array.getElem?_setIfInBounds_ne (by omega), putAt_out _ _ _ _ (by omega)]
      exact h.dat q d hq hd j y hx
  · rw [Array.getElem?_setIfInBounds_self_of_lt (by omega)]; simp
  · rw [Array.getElem?_setIfInBounds_ne (by omega), putAt_out _ _ _ _ (by omega)]; exact h.cwr
  · rw [Array.getElem?_setIfInBounds_ne (by omega), putAt_out _ _ _ _ (by omega)]; exact h.cwk
  · rw [Array.getElem?_setIfInBounds_ne (by omega), putAt_out _ _ _ _ (by omega)]; exact h.cbd
  · by_cases e : q < l.length
    · rw [List.getElem?_append_left e] at hd; exact h.d64 q d hd
    · by_cases e2 : q = l.length
      · subst e2
        simp only [List.getElem?_concat_length, Option.some.injEq] at hd
        exact hp d hd
      · rw [List.getElem?_eq_none (by simp; omega)] at hd; simp at hd

end Go.Proofs.YtkibgflbidkalaaGreatDoor

/- The chip's small methods: Down, Next, Wear, Bad, there, Arm, Weaken, ready, gives. -/
namespace Go.Proofs.YtkibgflbidkalaaGreatDoor
open Go.RowKit

theorem neq_nil (w : World) : (binOp .neq 68 .nilFunc .nilFunc).run Tryz.prog w = .ok (.bool false) w := by kernel_rfl
theorem neq_fn (f : Fn) (a c : Array Value) (w : World) : (binOp .neq 68 (.func f a c) .nilFunc).run Tryz.prog w = .ok (.bool true) w := by kernel_rfl

def fellV (b1 b2 : Nat) : Value := .func (.func 79) #[] #[.pointer (some ⟨b1, 0, none⟩), .pointer (some ⟨b2, 0, none⟩)]
def FellAt (w : World) (cb : Nat) : Option Pend → Value → Prop
  | none, fv => fv = .nilFunc
  | some (.write b d), fv => ∃ b1 b2 kb pb, fv = fellV b1 b2 ∧ ¬ b1 = cb ∧ ¬ b2 = cb ∧ ¬ kb = cb ∧ ¬ pb = cb ∧ b < 24 ∧ d.length = 64 ∧
      Blk w b1 #[.func (.func 114) #[] #[.pointer (some ⟨kb, 0, none⟩), .pointer (some ⟨pb, 0, none⟩)]] 1 ∧ Blk w b2 #[.func (.func 116) #[] #[.pointer (some ⟨kb, 0, none⟩)]] 1 ∧
      Blk w kb #[.pointer (some ⟨cb, b * 524, none⟩)] 101 ∧ Blk w pb (pgCells (.whole d)).toArray 63
  | some (.erase b), fv => ∃ b1 b2 kb, fv = fellV b1 b2 ∧ ¬ b1 = cb ∧ ¬ b2 = cb ∧ ¬ kb = cb ∧ b < 24 ∧
      Blk w b1 #[.func (.func 46) #[] #[.pointer (some ⟨kb, 0, none⟩)]] 1 ∧ Blk w b2 #[.func (.func 48) #[] #[.pointer (some ⟨kb, 0, none⟩)]] 1 ∧
      Blk w kb #[.pointer (some ⟨cb, b * 524, none⟩)] 101
def PendOk (M : CM) : Prop := ∀ b d, M.pend = some (.write b d) → (M.pg b).length < 8
structure ChipAt (w : World) (cb : Nat) (M : CM) : Prop where
  cells : ∃ cs fv, Blk w cb cs 70 ∧ Rep cs M fv ∧ FellAt w cb M.pend fv
  ok : PendOk M

theorem Blk.grown {w w' : World} {b cb : Nat} {cs : Array Value} {t : TypeId} (h : Blk w b cs t) (hg : w.grownBy w' (some cb)) (hne : ¬ b = cb) : Blk w' b cs t :=
  ⟨by rw [hg.block b h.lt (by simpa using hne)]; exact h.blk⟩
theorem FellAt.grown {w w' : World} {cb : Nat} {p : Option Pend} {fv : Value} (h : FellAt w cb p fv) (hg : w.grownBy w' (some cb)) : FellAt w' cb p fv := by
  match p, h with
  | none, h => exact h
  | some (.write b d), ⟨b1, b2, kb, pb, e, n1, n2, n3, n4, hb, hd, k1, k2, k3, k4⟩ => exact ⟨b1, b2, kb, pb, e, n1, n2, n3, n4, hb, hd, k1.grown hg n1, k2.grown hg n2, k3.grown hg n3, k4.grown hg n4⟩
  | some (.erase b), ⟨b1, b2, kb, e, n1, n2, n3, hb, k1, k2, k3⟩ => exact ⟨b1, b2, kb, e, n1, n2, n3, hb, k1.grown hg n1, k2.grown hg n2, k3.grown hg n3⟩
theorem grow_refl (w : World) (r : Option Nat) : w.grownBy w r := ⟨rfl, rfl, rfl, Nat.le_refl _, fun _ _ _ => rfl⟩
theorem grow_trans {a b c : World} {r : Option Nat} (h : a.grownBy b r) (k : b.grownBy c r) : a.grownBy c r :=
  ⟨k.os.trans h.os, k.tape.trans h.tape, k.output.trans h.output, Nat.le_trans h.size k.size, fun i hi hne => (k.block i (Nat.lt_of_lt_of_le hi h.size) hne).trans (h.block i hi hne)⟩
theorem grow_set (w : World) (b o : Nat) (v : Value) : w.grownBy (w.setCell ⟨b, o, none⟩ v) (some b) :=
  ⟨rfl, rfl, rfl, by simp [World.setCell], fun k _ hne => Below.heap_setCell _ _ _ _ (fun e => hne (by rw [e]))⟩
theorem grow_alloc (w : World) (o : Obj) (r : Option Nat) : w.grownBy (w.alloc o) r := World.grownBy_alloc w o r
theorem grow_ext {a b : World} (h : Ext a b) (r : Option Nat) : a.grownBy b r := ⟨h.below.os, h.below.tape, h.below.output, h.size, fun k hk _ => h.below.block k hk⟩
theorem ChipAt.ext {w w' : World} {cb : Nat} {M : CM} (h : ChipAt w cb M) (hx : Ext w w') : ChipAt w' cb M := by
  obtain ⟨⟨cs, fv, h1, h2, h3⟩, hok⟩ := h
  exact ⟨⟨cs, fv, h1.ext hx, h2, h3.grown (grow_ext hx _)⟩, hok⟩

def downB (M : CM) : Bool := M.pend.isSome
theorem ChipAt.down {w : World} {cb : Nat} {M : CM} (h : ChipAt w cb M) : (downB M = false ∧ w.cell? ⟨cb, 12577, none⟩ = some .nilFunc) ∨ (downB M = true ∧ ∃ b1 b2, w.cell? ⟨cb, 12577, none⟩ = some (fellV b1 b2)) := by
  obtain ⟨⟨cs, fv, h1, h2, h3⟩, _⟩ := h
  have hc := h1.cell 12577
  rw [h2.fell] at hc
  unfold downB
  match hp : M.pend with
  | none => rw [hp] at h3; rw [h3] at hc; exact .inl ⟨rfl, hc⟩
  | some (.write b d) => rw [hp] at h3; obtain ⟨b1, b2, _, _, e, _⟩ := h3; rw [e] at hc; exact .inr ⟨rfl, b1, b2, hc⟩
  | some (.erase b) => rw [hp] at h3; obtain ⟨b1, b2, _, e, _⟩ := h3; rw [e] at hc; exact .inr ⟨rfl, b1, b2, hc⟩

set_option maxRecDepth 100000 in
set_option maxHeartbeats 1000000 in
theorem down_any (cb : Nat) (M : CM) (w : World) (h : ChipAt w cb M) :
    Calls Tryz.prog 39 #[.pointer (some ⟨cb, 0, none⟩)] w fun e w' => e = .returned (.bool (downB M)) ∧ w' = w := by
  rcases h.down with ⟨hd, hc⟩ | ⟨hd, b1, b2, hc⟩
  · have n0 := neq_nil
    have HD : Hid (downB M = false) := hd
    clear h hd
    go_enter Tryz.func39, Tryz.ntmps39
    go_wp2
    go_ret
    exact ⟨by rw [HD.out]; rfl, rfl⟩
  · have n1 := neq_fn
    have HD : Hid (downB M = true) := hd
    clear h hd
    unfold fellV at hc
    go_enter Tryz.func39, Tryz.ntmps39
    go_wp2
    go_ret
    exact ⟨by rw [HD.out]; rfl, rfl⟩

set_option maxHeartbeats 400000 in
theorem there_yes (b : Int) (w : World) (h0 : 0 ≤ b) (h1 : b < 24) :
    Calls Tryz.prog 78 #[.int .i64 b] w fun e w' => e = .returned (.bool true) ∧ w' = w := by
  go_enter Tryz.func78, Tryz.ntmps78
  go_wp2
  go_ret
  exact ⟨rfl, rfl⟩
set_option maxHeartbeats 400000 in
theorem there_no (b : Int) (w : World) (h : b < 0 ∨ 24 ≤ b) :
    Calls Tryz.prog 78 #[.int .i64 b] w fun e w' => e = .returned (.bool false) ∧ w' = w := by
  rcases h with h | h
  · have h' : decide (0 ≤ b) = false := by simp; omega
    go_enter Tryz.func78, Tryz.ntmps78
    go_wp2
    go_ret
    exact ⟨rfl, rfl⟩
  · have h1 : 0 ≤ b := by omega
    have h' : decide (b < 24) = false := by simp; omega
    go_enter Tryz.func78, Tryz.ntmps78
    go_wp2
    go_ret
    exact ⟨rfl, rfl⟩

theorem ChipAt.at {w : World} {cb : Nat} {M : CM} (h : ChipAt w cb M) {b : Nat} (hb : b < 24) :
    w.cell? ⟨cb, b * 524 + 520, none⟩ = some (.int .i64 ((M.pg b).length : Int)) ∧ w.cell? ⟨cb, b * 524 + 521, none⟩ = some (.int .i64 (M.wr b : Int)) ∧ w.cell? ⟨cb, b * 524 + 522, none⟩ = some (.bool (M.wk b)) ∧ w.cell? ⟨cb, b * 524 + 523, none⟩ = some (.bool (M.bd b)) := by
  obtain ⟨⟨cs, fv, h1, h2, h3⟩, _⟩ := h
  have hr := h2.blk b hb
  exact ⟨by rw [h1.cell]; exact hr.nx, by rw [h1.cell]; exact hr.cwr, by rw [h1.cell]; exact hr.cwk, by rw [h1.cell]; exact hr.cbd⟩

set_option maxHeartbeats 400000 in
theorem next_any (cb b : Nat) (M : CM) (w : World) (hb : b < 24) (h : ChipAt w cb M) :
    Calls Tryz.prog 81 #[.pointer (some ⟨cb, 0, none⟩), .int .i64 (b : Int)] w fun e w' => e = .returned (.int .i64 ((M.pg b).length : Int)) ∧ w' = w := by
  obtain ⟨c0, _, _, _⟩ := h.at hb
  have h1 : (0 : Int) ≤ b := by omega
  have h2 : (b : Int) < 24 := by omega
  clear h
  generalize ((M.pg b).length : Int) = n at *
  go_enter Tryz.func81, Tryz.ntmps81
  go_wp2_with (go_at_call 78; refine (there_yes _ _ h1 h2).mono ?_; rintro e w' ⟨rfl, rfl⟩)
  go_ret
  exact ⟨rfl, rfl⟩
end Go.Proofs.YtkibgflbidkalaaGreatDoor

/- The chip's methods that change a cell: Arm, Weaken, gives; and ready. -/
namespace Go.Proofs.YtkibgflbidkalaaGreatDoor
open Go.RowKit

theorem upd_id {α : Type} (f : Nat → α) (b : Nat) : upd f b (f b) = f := by
  funext c; unfold upd; split
  · rename_i h; rw [h]
  · rfl
theorem Rep.setBd {cs : Array Value} {M : CM} {fv : Value} (h : Rep cs M fv) {b : Nat} (hb : b < 24) (x : Bool) : Rep (cs.setIfInBounds (b * 524 + 523) (.bool x)) { M with bd := upd M.bd b x } fv := by
  have := h.block (cs' := cs.setIfInBounds (b * 524 + 523) (.bool x)) hb (by simp) (fun i hi => by rw [Array.getElem?_setIfInBounds_ne (by omega)]) ((h.blk b hb).setBd (by have := h.size; omega) x)
  simpa only [upd_id] using this

def readyE (M : CM) (b : Int) : Int := if downB M then 9 else if 0 ≤ b ∧ b < 24 then (if M.bd b.toNat then 7 else 0) else 1

set_option maxRecDepth 100000 in
set_option maxHeartbeats 1000000 in
theorem ready_any (cb : Nat) (b : Int) (M : CM) (w : World) (h : ChipAt w cb M) :
    Calls Tryz.prog 43 #[.pointer (some ⟨cb, 0, none⟩), .int .i64 b] w fun e w' => e = .returned (errV (readyE M b)) ∧ w' = w := by
  cases hd : downB M with
  | true =>
    have HR : Hid (readyE M b = 9) := by unfold readyE Hid; rw [hd]; rfl
    go_enter Tryz.func43, Tryz.ntmps43
    go_wp2_with (go_at_call 39; refine (down_any cb M _ h).mono ?_; rw [hd]; rintro e w' ⟨rfl, rfl⟩)
    go_ret
    exact ⟨by rw [HR.out]; rfl, rfl⟩
  | false =>
    by_cases hb : 0 ≤ b ∧ b < 24
    · obtain ⟨hb1, hb2⟩ := hb
      obtain ⟨b, rfl⟩ := Int.eq_ofNat_of_zero_le hb1
      have hb3 : b < 24 := by omega
      obtain ⟨_, _, _, c0⟩ := h.at hb3
      cases hx : M.bd b with
      | true =>
        have HR : Hid (readyE M (b : Int) = 7) := by unfold readyE Hid; rw [hd, if_neg (by simp), if_pos ⟨hb1, hb2⟩, Int.toNat_natCast, hx]; rfl
        rw [hx] at c0
        clear hx
        go_enter Tryz.func43, Tryz.ntmps43
        go_wp2_with (first
          | (go_at_call 39; refine (down_any cb M _ h).mono ?_; rw [hd]; rintro e w' ⟨rfl, rfl⟩)
          | (go_at_call 78; refine (there_yes _ _ hb1 hb2).mono ?_; rintro e w' ⟨rfl, rfl⟩))
        go_ret
        exact ⟨by rw [HR.out]; rfl, rfl⟩
      | false =>
        have HR : Hid (readyE M (b : Int) = 0) := by unfold readyE Hid; rw [hd, if_neg (by simp), if_pos ⟨hb1, hb2⟩, Int.toNat_natCast, hx]; rfl
        rw [hx] at c0
        clear hx
        go_enter Tryz.func43, Tryz.ntmps43
        go_wp2_with (first
          | (go_at_call 39; refine (down_any cb M _ h).mono ?_; rw [hd]; rintro e w' ⟨rfl, rfl⟩)
          | (go_at_call 78; refine (there_yes _ _ hb1 hb2).mono ?_; rintro e w' ⟨rfl, rfl⟩))
        go_ret
        exact ⟨by rw [HR.out]; rfl, rfl⟩
    · have HR : Hid (readyE M b = 1) := by unfold readyE Hid; rw [hd, if_neg (by simp), if_neg hb]
      have hb' : b < 0 ∨ 24 ≤ b := by omega
      clear hb
      go_enter Tryz.func43, Tryz.ntmps43
      go_wp2_with (first
        | (go_at_call 39; refine (down_any cb M _ h).mono ?_; rw [hd]; rintro e w' ⟨rfl, rfl⟩)
        | (go_at_call 78; refine (there_no _ _ hb').mono ?_; rintro e w' ⟨rfl, rfl⟩))
      go_ret
      exact ⟨by rw [HR.out]; rfl, rfl⟩

def givesM (M : CM) (b : Nat) : CM := if M.wk b then { M with bd := upd M.bd b true } else M
set_option maxRecDepth 100000 in
set_option maxHeartbeats 1000000 in
theorem gives_any (cb b : Nat) (M : CM) (w : World) (hb : b < 24) (h : ChipAt w cb M) :
    Calls Tryz.prog 44 #[.pointer (some ⟨cb, b * 524, none⟩)] w fun e w' => e = .returned (.bool (M.wk b)) ∧ ChipAt w' cb (givesM M b) ∧ w.grownBy w' (some cb) ∧ (M.wk b = false → w' = w) := by
  obtain ⟨_, _, c0, c1⟩ := h.at hb
  obtain ⟨⟨cs, fv, h1, h2, h3⟩, hok⟩ := h
  have f1 := h1.free (b * 524 + 523)
  cases hx : M.wk b with
  | true =>
    have HM : Hid (givesM M b = { M with bd := upd M.bd b true }) := by unfold givesM Hid; rw [hx]; rfl
    rw [hx] at c0
    clear hx
    generalize M.bd b = y at *
    go_enter Tryz.func44, Tryz.ntmps44
    go_wp2
    go_ret
    refine ⟨rfl, ?_, grow_set _ _ _ _, by simp⟩
    rw [HM.out]
    exact ⟨⟨_, fv, h1.set _ _, h2.setBd hb true, h3.grown (grow_set _ _ _ _)⟩, hok⟩
  | false =>
    have HM : Hid (givesM M b = M) := by unfold givesM Hid; rw [hx]; rfl
    rw [hx] at c0
    clear hx
    go_enter Tryz.func44, Tryz.ntmps44
    go_wp2
    go_ret
    refine ⟨rfl, ?_, grow_refl _ _, fun _ => rfl⟩
    rw [HM.out]
    exact ⟨⟨_, fv, h1, h2, h3⟩, hok⟩

end Go.Proofs.YtkibgflbidkalaaGreatDoor
