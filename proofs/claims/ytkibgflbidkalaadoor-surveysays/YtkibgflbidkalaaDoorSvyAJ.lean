/- SvyA. -/
import Derived.Test.YtkibgflbidkalaaDoorTopCJ

/- What blocks are used for, held against the law's own words. -/
namespace Go.Proofs.YtkibgflbidkalaaDoor
open Go.RowKit Go.WideShapes

theorem Kp.setCells {b : Nat} {S : List Nat} (hb : b ∈ S) (l : List Value) : ∀ (w : World) (o : Nat), Kp w (w.setCells b o l) S := by
  induction l with
  | nil => intro w o; exact Kp.refl _ _
  | cons v r ih => intro w o; exact (Kp.set w hb v).trans (ih _ (o + 1))
/-- A store in use, beside an array of numbers. -/
structure SvAt (w wr : World) (kb : Nat) (A : Array Value) (sb cb n k : Nat) : Prop where
  ex : ∃ R S m, Up n wr S sb cb m k R ∧ Ext w wr ∧ (∀ b ∈ S, w.heap.size ≤ b) ∧ Blk wr kb A 27 ∧ kb ∉ S ∧ w.heap.size ≤ kb
theorem SvAt.x {w wr : World} {kb : Nat} {A : Array Value} {sb cb n k : Nat} (h : SvAt w wr kb A sb cb n k) : Ext w wr := by
  obtain ⟨_, _, _, _, h, _⟩ := h.ex; exact h
theorem UpE.sv {w wr w' : World} {S : List Nat} {kb : Nat} {A : Array Value} {sb cb n n' k k' : Nat} {R : List Ent} (h : UpE n wr w' S sb cb k R) (hx : Ext w wr) (hS : ∀ b ∈ S, w.heap.size ≤ b) (hB : Blk wr kb A 27) (hn : kb ∉ S) (hk : w.heap.size ≤ kb) (hnn : n ≤ n') (hkk : k ≤ k') : SvAt w w' kb A sb cb n' k' := by
  obtain ⟨S', m', q1, q2, q3⟩ := h.ex
  exact ⟨R, S', m', q1.le hnn hkk, Kp.ext hx q2 hS, fun b hb => (q3 b hb).elim (hS b) (fun h => Nat.le_trans hx.size h), q2.Blk hB hn, fun hm => (q3 kb hm).elim hn (fun h => by have := hB.lt; omega), hk⟩
section
variable {w wr : World} {kb : Nat} {A : Array Value} {sb cb n k : Nat}
theorem SvAt.write (h : SvAt w wr kb A sb cb n k) (hn : n ≤ 80000) {ao : Option Addr} {cap : Nat} {l : List Ent} (hl : EntsAt w ao l) :
    Calls Tryd.prog 9 #[.pointer (some ⟨sb, 0, none⟩), .slice ao l.length cap] wr fun e w' => (∃ v, e = .returned v) ∧ SvAt w w' kb A sb cb (n + 9) k := by
  obtain ⟨R, S, m, h1, h2, h3, h4, h5, h6⟩ := h.ex
  exact (h1.wr hn (Aside3.old hl h2 h3)).mono fun e w' hh => ⟨⟨_, hh.1⟩, hh.2.sv h2 h3 h4 h5 h6 (Nat.le_refl _) (Nat.le_refl _)⟩
theorem SvAt.flush (h : SvAt w wr kb A sb cb n k) (hn : n ≤ 80000) :
    Calls Tryd.prog 10 #[.pointer (some ⟨sb, 0, none⟩)] wr fun e w' => (∃ v, e = .returned v) ∧ SvAt w w' kb A sb cb (n + 9) k := by
  obtain ⟨R, S, m, h1, h2, h3, h4, h5, h6⟩ := h.ex
  exact (h1.flush hn).mono fun e w' hh => ⟨⟨_, hh.1⟩, hh.2.sv h2 h3 h4 h5 h6 (Nat.le_refl _) (Nat.le_refl _)⟩
theorem SvAt.compact (h : SvAt w wr kb A sb cb n k) (hn : n ≤ 80000) :
    Calls Tryd.prog 11 #[.pointer (some ⟨sb, 0, none⟩)] wr fun e w' => (∃ v, e = .returned v) ∧ SvAt w w' kb A sb cb (n + 9) k := by
  obtain ⟨R, S, m, h1, h2, h3, h4, h5, h6⟩ := h.ex
  exact (h1.compact hn).mono fun e w' hh => ⟨⟨_, hh.1⟩, hh.2.sv h2 h3 h4 h5 h6 (by omega) (Nat.le_refl _)⟩
theorem SvAt.weaken (h : SvAt w wr kb A sb cb n k) (hk : k + 1 ≤ 6) (b : Int) :
    Calls Tryd.prog 12 #[.pointer (some ⟨cb, 0, none⟩), .int .i64 b] wr fun e w' => (∃ v, e = .returned v) ∧ SvAt w w' kb A sb cb (n + 9) (k + 1) := by
  obtain ⟨R, S, m, h1, h2, h3, h4, h5, h6⟩ := h.ex
  exact (h1.weaken hk b).mono fun e w' hh => ⟨⟨_, hh.1⟩, hh.2.sv h2 h3 h4 h5 h6 (by omega) (Nat.le_refl _)⟩
theorem SvAt.le (h : SvAt w wr kb A sb cb n k) {n' k' : Nat} (hn : n ≤ n') (hk : k ≤ k') : SvAt w wr kb A sb cb n' k' := by
  obtain ⟨R, S, m, h1, h2⟩ := h.ex
  exact ⟨R, S, m, h1.le hn hk, h2⟩
end
/-- All that a store in use says to the survey, and the chip. -/
structure SvyE (w2 : World) (sb cb : Nat) (m : Man) (f : Nat → Bool) (g : Nat → Int) : Prop where
  of : ∀ W, Ext w2 W → Calls Tryd.prog 5 #[.pointer (some ⟨cb, 0, none⟩), .pointer (some ⟨sb, 0, none⟩)] W fun e w' => e = .returned (.agg (kC (kindsF m f))) ∧ Ext W w'
  spread : ∀ W, Ext w2 W → Calls Tryd.prog 16 #[.pointer (some ⟨cb, 0, none⟩)] W fun e w' => e = .returned (.tuple #[.int .i64 (sprd f g 22).1, .int .i64 (sprd f g 22).2.1]) ∧ W = w'
  man : ∀ W, Ext w2 W → Calls Tryd.prog 13 #[.pointer (some ⟨sb, 0, none⟩)] W fun e w' => MnfE W w' e m
  bad : ∀ W (b : Nat), Ext w2 W → b < 24 → Calls Tryd.prog 14 #[.pointer (some ⟨cb, 0, none⟩), .int .i64 (b : Int)] W fun e w' => e = .returned (.bool (f b)) ∧ W = w'
  wear : ∀ W (b : Nat), Ext w2 W → b < 24 → Calls Tryd.prog 15 #[.pointer (some ⟨cb, 0, none⟩), .int .i64 (b : Int)] W fun e w' => e = .returned (.int .i64 (g b)) ∧ W = w'
  ok : manFault m = 0
  g0 : ∀ b, 0 ≤ g b ∧ g b ≤ 1073741824
  some : ∃ j, j < 22 ∧ f (j + 2) = false
  nums : m.nw.length ≤ 2 ∧ m.od.length ≤ 3
theorem wk_some {wk : Nat → Bool} (h : wkN wk ≤ 6) : ∃ j, j < 22 ∧ wk (j + 2) = false := by
  by_cases hh : ∃ j, j < 22 ∧ wk (j + 2) = false
  · exact hh
  · exfalso
    have : wkN wk = (List.range' 2 22).length := by
      unfold wkN
      rw [List.countP_eq_length]
      intro b hb
      rw [List.mem_range'] at hb
      obtain ⟨i, hi, rfl⟩ := hb
      cases hw : wk (2 + 1 * i) with
      | true => rfl
      | false => exact absurd ⟨i, hi, by rw [← hw]; congr 1; omega⟩ hh
    rw [List.length_range'] at this
    omega
theorem svy_of {n : Nat} {w : World} {S : List Nat} {sb cb : Nat} {M : CM} {m : Man} {a : Nat} {x : SMem} {N O : List Tb} (h1 : StoAt w S sb cb M m a x) (h2 : Inv n M m a (x.ns.map Nd.e) N O) (hN : N.length ≤ 2) (hn : n ≤ 1073741824) : SvyE w sb cb m M.bd (fun b => (M.wr b : Int)) := by
  have hl : m.nw.length ≤ 2 ∧ m.od.length ≤ 3 := by
    rw [h2.nw, h2.od]
    simp only [List.length_map]
    exact ⟨hN, h2.few'⟩
  refine ⟨fun W hx => survOf_any n W S sb cb M m a x N O (h1.ext hx) h2 (by omega) (by omega), fun W hx => spread_any cb M W (h1.chip.ext hx), fun W hx => manifest_any W S sb cb M m a x (h1.ext hx) (by omega) (by omega), fun W b hx hb => (bad_any cb b M W hb (h1.chip.ext hx)).mono fun _ _ h => ⟨h.1, h.2.symm⟩, fun W b hx hb => (wear_any cb b M W hb (h1.chip.ext hx)).mono fun _ _ h => ⟨h.1, h.2.symm⟩, h2.ok, fun b => by have := h2.wr b; omega, ?_, hl⟩
  obtain ⟨j, hj, hw⟩ := wk_some h2.wk
  refine ⟨j, hj, ?_⟩
  cases hb : M.bd (j + 2) with
  | false => rfl
  | true => rw [h2.bw _ hb] at hw; cases hw
/-- What is said stays said when the array beside it is laid anew. -/
theorem SvAt.svy {w wr : World} {kb : Nat} {A : Array Value} {sb cb n k : Nat} (h : SvAt w wr kb A sb cb n k) (hn : n ≤ 80000) (hg : GlobT w) :
    ∃ m f g, SvyE wr sb cb m f g ∧ ∀ W w', Ext wr W → Kp W w' [kb] → SvyE w' sb cb m f g := by
  obtain ⟨R, S, m, h1, h2, h3, h4, h5, h6⟩ := h.ex
  obtain ⟨M, a, x, N, O, q1, q2, q3, q4, q5, q6⟩ := h1.ex
  refine ⟨m, M.bd, fun b => (M.wr b : Int), svy_of q1 q2 q6 (by omega), fun W w' hx hK => ?_⟩
  have hgl := hg.lt
  refine svy_of ((q1.ext hx).kp q2.nst.up hK (fun b hb hm => ?_) (fun hm => ?_)) q2 q6 (by omega)
  · simp at hm; subst hm; exact h5 hb
  · simp at hm; omega
/-- The least and the most wear, by the law's own words. -/
def lsF (f : Nat → Bool) (g : Nat → Int) : Nat → Int × Int
  | 0 => (1073741824, 0)
  | b + 1 => if 1 < b ∧ f b = false then (min (lsF f g b).1 (g b), max (lsF f g b).2 (g b)) else lsF f g b
theorem lsF_two (f : Nat → Bool) (g : Nat → Int) : lsF f g 2 = (1073741824, 0) := by
  simp [lsF]
theorem lsF_sprd (f : Nat → Bool) (g : Nat → Int) (h : ∀ b, 0 ≤ g b ∧ g b ≤ 1073741824) : ∀ j, ((sprd f g j).2.2 = true → lsF f g (j + 2) = (1073741824, 0)) ∧ ((sprd f g j).2.2 = false → lsF f g (j + 2) = ((sprd f g j).1, (sprd f g j).2.1))
  | 0 => ⟨fun _ => lsF_two f g, fun h => by simp [sprd] at h⟩
  | j + 1 => by
    have ih := lsF_sprd f g h j
    have hg := h (j + 2)
    have e1 : lsF f g (j + 1 + 2) = if 1 < j + 2 ∧ f (j + 2) = false then (min (lsF f g (j + 2)).1 (g (j + 2)), max (lsF f g (j + 2)).2 (g (j + 2))) else lsF f g (j + 2) := rfl
    have e2 : sprd f g (j + 1) = if f (j + 2) = true then sprd f g j else if (sprd f g j).2.2 = true then (g (j + 2), g (j + 2), false) else (min (sprd f g j).1 (g (j + 2)), max (sprd f g j).2.1 (g (j + 2)), false) := rfl
    rw [e1, e2]
    cases hf : f (j + 2) with
    | true =>
      rw [if_pos (rfl : true = true), if_neg (show ¬ (1 < j + 2 ∧ true = false) by simp)]; exact ih
    | false =>
      rw [if_neg (show ¬ false = true by simp), if_pos (show 1 < j + 2 ∧ false = false from ⟨by omega, rfl⟩)]
      cases hz : (sprd f g j).2.2 with
      | true =>
        rw [if_pos rfl, ih.1 hz]
        refine ⟨fun h => by simp at h, fun _ => ?_⟩
        simp only [Prod.mk.injEq]
        omega
      | false =>
        rw [if_neg (by simp), ih.2 hz]
        exact ⟨fun h => by simp at h, fun _ => rfl⟩
theorem sprd_seen (f : Nat → Bool) (g : Nat → Int) : ∀ j i, i < j → f (i + 2) = false → (sprd f g j).2.2 = false
  | 0, _, h, _ => absurd h (by omega)
  | j + 1, i, h, hf => by
    have e2 : sprd f g (j + 1) = if f (j + 2) = true then sprd f g j else if (sprd f g j).2.2 = true then (g (j + 2), g (j + 2), false) else (min (sprd f g j).1 (g (j + 2)), max (sprd f g j).2.1 (g (j + 2)), false) := rfl
    rw [e2]
    cases hfj : f (j + 2) with
    | true =>
      rw [if_pos rfl]
      refine sprd_seen f g j i ?_ hf
      by_cases e : i = j
      · subst e; rw [hf] at hfj; cases hfj
      · omega
    | false =>
      rw [if_neg (by simp)]
      split <;> rfl
theorem SvyE.least {w2 : World} {sb cb : Nat} {m : Man} {f : Nat → Bool} {g : Nat → Int} (h : SvyE w2 sb cb m f g) : lsF f g 24 = ((sprd f g 22).1, (sprd f g 22).2.1) := by
  obtain ⟨j, hj, hf⟩ := h.some
  exact (lsF_sprd f g h.g0 22).2 (sprd_seen f g 22 j hj hf)
theorem lsF_le (f : Nat → Bool) (g : Nat → Int) (h : ∀ b, 0 ≤ g b ∧ g b ≤ 1073741824) : ∀ b, 0 ≤ (lsF f g b).1 ∧ (lsF f g b).1 ≤ 1073741824 ∧ 0 ≤ (lsF f g b).2 ∧ (lsF f g b).2 ≤ 1073741824
  | 0 => by simp [lsF]
  | b + 1 => by
    have ih := lsF_le f g h b
    have hg := h b
    unfold lsF
    split
    · dsimp only; omega
    · exact ih
/-- What the law wants of a block that no table lies on. -/
def want0 (m : Man) (f : Nat → Bool) (b : Nat) : Int := if b < 2 then 1 else if (b : Int) = m.lg then 2 else if f b = true then 5 else 0
theorem want_eq (m : Man) (f : Nat → Bool) (b : Nat) (h : manFault m = 0) : putK (putK (want0 m f) m.nw 3) m.od 4 b = kindsF m f b := by
  rw [kindsF_val]
  unfold putK want0
  have hlg := (man_names h).1 m.lg (by simp)
  by_cases h2 : b < 2
  · have : ¬ (b : Int) = m.lg := by omega
    simp only [h2, this, if_true, if_false]
  · simp only [h2, if_false]
/-- How many blocks of each kind the law has counted. -/
def cntA (G : Nat → Int) (b : Nat) : Array Value := #[.int .i64 (cntK G 0 b : Int), .int .i64 (cntK G 1 b : Int), .int .i64 (cntK G 2 b : Int), .int .i64 (cntK G 3 b : Int), .int .i64 (cntK G 4 b : Int), .int .i64 (cntK G 5 b : Int)]
theorem cntA_get (G : Nat → Int) (b v : Nat) (h : v < 6) : (cntA G b)[v]? = some (.int .i64 (cntK G (v : Int) b : Int)) := by
  match v, h with
  | 0, _ => rfl
  | 1, _ => rfl
  | 2, _ => rfl
  | 3, _ => rfl
  | 4, _ => rfl
  | 5, _ => rfl
  | n + 6, h => exact absurd h (by omega)
theorem cntA_set (G : Nat → Int) (b v : Nat) (h : v < 6) (hv : G b = (v : Int)) : (cntA G b).setIfInBounds v (.int .i64 ((cntK G (v : Int) b : Int) + 1)) = cntA G (b + 1) := by
  unfold cntA
  simp only [cntK, hv]
  match v, h with
  | 0, _ => simp
  | 1, _ => simp
  | 2, _ => simp
  | 3, _ => simp
  | 4, _ => simp
  | 5, _ => simp
  | n + 6, h => exact absurd h (by omega)
theorem kinds_nat (m : Man) (f : Nat → Bool) (b : Nat) : ∃ v : Nat, kindsF m f b = (v : Int) ∧ v < 6 := by
  refine ⟨(kindsF m f b).toNat, ?_, ?_⟩
  all_goals
    rw [kindsF_val]
    repeat' split
    all_goals first | rfl | decide
end Go.Proofs.YtkibgflbidkalaaDoor
