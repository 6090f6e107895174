/- TabH. -/
import Derived.Test.YtjeinblcpejpnabGreatDoorTabGJ

/- Tables: Write. -/
namespace Go.Proofs.YtjeinblcpejpnabGreatDoor
open Go.RowKit Go.WideShapes Go.Shelf
attribute [local go_sem] Oper.semAt_some

theorem tick_left' (M : CM) : (tickM M).left ≤ M.left ∨ (tickM M).left ≤ 0 := by unfold tickM; split <;> simp <;> omega
theorem writeM_left' (M : CM) (b : Int) (s : ByteArray) {n : Int} (h : M.left ≤ n) (hn : 0 ≤ n) : (writeM M b s).left ≤ n := by
  unfold writeM
  repeat' split
  all_goals first | exact h | (show (tickM M).left ≤ n; have := tick_left' M; omega)
theorem eraseM_left' (M : CM) (b : Int) {n : Int} (h : M.left ≤ n) (hn : 0 ≤ n) : (eraseM M b).left ≤ n := by
  unfold eraseM
  repeat' split
  all_goals first | exact h | (show (tickM M).left ≤ n; have := tick_left' M; omega)
/-- Parts are written, one behind the other. -/
def goW (b : Int) : CM → List (List Ent) → CM × Int
  | M, [] => (M, 0)
  | M, p :: ps => if ¬ (bytesT p).2 = 0 then (M, (bytesT p).2) else if ¬ writeE M b (txt (bytesT p).1) = 0 then (writeM M b (txt (bytesT p).1), writeE M b (txt (bytesT p).1)) else goW b (writeM M b (txt (bytesT p).1)) ps
theorem goW_app (b : Int) : ∀ (ps : List (List Ent)) (M : CM) (qs : List (List Ent)), (goW b M ps).2 = 0 → goW b M (ps ++ qs) = goW b (goW b M ps).1 qs
  | [], M, qs, _ => rfl
  | p :: ps, M, qs, h => by
    simp only [goW, List.cons_append] at h ⊢
    split
    · rename_i hc; rw [if_pos hc] at h; exact absurd h hc
    · rename_i hc
      rw [if_neg hc] at h
      split
      · rename_i hd; rw [if_pos hd] at h; exact absurd h hd
      · rename_i hd; rw [if_neg hd] at h; exact goW_app b ps _ qs h
theorem goW_stop (b : Int) : ∀ (ps : List (List Ent)) (M : CM) (qs : List (List Ent)), ¬ (goW b M ps).2 = 0 → goW b M (ps ++ qs) = goW b M ps
  | [], M, qs, h => absurd rfl h
  | p :: ps, M, qs, h => by
    simp only [goW, List.cons_append] at h ⊢
    split
    · rfl
    · rename_i hc
      rw [if_neg hc] at h
      split
      · rfl
      · rename_i hd; rw [if_neg hd] at h; exact goW_stop b ps _ qs h
def partsE (n : Nat) (es : List Ent) : List (List Ent) := (List.range (partsN n es.length)).map (partE n es)
def headT (es : List Ent) : ByteArray := txtM (headB (filterN (keysE es)) 8)
/-- What Write makes of a chip, and what it answers. -/
def writeT (M : CM) (b : Int) (es : List Ent) : CM × Int :=
  if ¬ tabF es = 0 then (M, tabF es) else if ¬ eraseE M b = 0 then (eraseM M b, eraseE M b)
  else if ¬ writeE (eraseM M b) b (headT es) = 0 then (writeM (eraseM M b) b (headT es), writeE (eraseM M b) b (headT es))
  else goW b (writeM (eraseM M b) b (headT es)) (partsE 2 es)

theorem headT_size (es : List Ent) : (headT es).size = 9 := by
  show (headB (filterN (keysE es)) 8).toArray.size = 9
  simp [headB]
theorem Blk.kept {W W' : World} {b : Nat} {cs : Array Value} {t : TypeId} {row : Option Nat} (h : Blk W b cs t) (hg : W.grownBy W' row) (hr : ∀ r, row = some r → ∃ o : Obj, W.heap[r]? = some o ∧ o.isCells = false) : Blk W' b cs t := by
  have hn : some b ≠ row := by
    intro e
    obtain ⟨o, ho, hc⟩ := hr b e.symm
    rw [h.blk] at ho
    cases ho
    cases hc
  exact ⟨by rw [hg.block b h.lt hn]; exact h.blk⟩
theorem FellAt.kept {w w' : World} {cb : Nat} {p : Option Pend} {fv : Value} {row : Option Nat} (h : FellAt w cb p fv) (hg : w.grownBy w' row) (hr : ∀ r, row = some r → ∃ o : Obj, w.heap[r]? = some o ∧ o.isCells = false) : FellAt w' cb p fv := by
  match p, h with
  | none, h => exact h
  | some (.write b d), ⟨b1, b2, kb, pb, e, n1, n2, n3, n4, hb, hd, k1, k2, k3, k4⟩ => exact ⟨b1, b2, kb, pb, e, n1, n2, n3, n4, hb, hd, k1.kept hg hr, k2.kept hg hr, k3.kept hg hr, k4.kept hg hr⟩
  | some (.erase b), ⟨b1, b2, kb, e, n1, n2, n3, hb, k1, k2, k3⟩ => exact ⟨b1, b2, kb, e, n1, n2, n3, hb, k1.kept hg hr, k2.kept hg hr, k3.kept hg hr⟩
theorem ChipAt.kept {w w' : World} {cb : Nat} {M : CM} {row : Option Nat} (h : ChipAt w cb M) (hg : w.grownBy w' row) (hr : ∀ r, row = some r → ∃ o : Obj, w.heap[r]? = some o ∧ o.isCells = false) : ChipAt w' cb M := by
  obtain ⟨⟨cs, fv, h1, h2, h3⟩, hok⟩ := h
  exact ⟨⟨cs, fv, h1.kept hg hr, h2, h3.kept hg hr⟩, hok⟩
theorem ChipAt.lt {w : World} {cb : Nat} {M : CM} (h : ChipAt w cb M) : cb < w.heap.size := by
  obtain ⟨⟨cs, fv, h1, _, _⟩, _⟩ := h
  exact h1.lt
/-- A box whose value is neither a function nor a pointer is none of the chip's. -/
def plainV : Value → Bool
  | .func _ _ _ => false
  | .pointer _ => false
  | _ => true
theorem Blk.same {w : World} {b : Nat} {cs cs' : Array Value} {t t' : TypeId} (h : Blk w b cs t) (k : Blk w b cs' t') : cs = cs' := by
  have := h.blk; rw [k.blk] at this; cases this; rfl
theorem ChipAt.setBox {w : World} {cb b : Nat} {M : CM} {x : Value} {t : TypeId} (h : ChipAt w cb M) (hne : ¬ b = cb) (hr : Blk w b #[x] t) (hx : plainV x = true) (o : Nat) (v : Value) : ChipAt (w.setCell ⟨b, o, none⟩ v) cb M := by
  obtain ⟨⟨cs, fv, h1, h2, h3⟩, hok⟩ := h
  refine ⟨⟨cs, fv, h1.other (fun e => hne e.symm) v, h2, ?_⟩, hok⟩
  have no : ∀ {c : Nat} {y : Value} {t' : TypeId}, Blk w c #[y] t' → plainV y = false → c ≠ b := fun k hy e => by
    subst e
    have := k.same hr
    simp only [Array.mk.injEq, List.cons.injEq, and_true] at this
    rw [this, hx] at hy; cases hy
  revert h3
  generalize M.pend = p
  intro h3
  match p, h3 with
  | none, h3 => exact h3
  | some (.write b' d), ⟨b1, b2, kb, pb, e, n1, n2, n3, n4, hb, hd, k1, k2, k3, k4⟩ =>
    refine ⟨b1, b2, kb, pb, e, n1, n2, n3, n4, hb, hd, k1.other (no k1 rfl) v, k2.other (no k2 rfl) v, k3.other (no k3 rfl) v, k4.other (fun e => ?_) v⟩
    have e' : pb = b := e
    subst e'
    have := congrArg Array.size (k4.same hr)
    simp [pgCells, hd] at this
  | some (.erase b'), ⟨b1, b2, kb, e, n1, n2, n3, hb, k1, k2, k3⟩ => exact ⟨b1, b2, kb, e, n1, n2, n3, hb, k1.other (no k1 rfl) v, k2.other (no k2 rfl) v, k3.other (no k3 rfl) v⟩
/-- A block that is no cell's may turn, if it is new. -/
theorem grow_kept {w W W' : World} {cb B : Nat} {row : Option Nat} (h : w.grownBy W (some cb)) (hB : w.heap.size ≤ B) (hg : W.grownBy W' row) (hr : ∀ r, row = some r → B ≤ r) : w.grownBy W' (some cb) :=
  ⟨hg.os.trans h.os, hg.tape.trans h.tape, hg.output.trans h.output, Nat.le_trans h.size hg.size, fun k hk hne => (hg.block k (Nat.lt_of_lt_of_le hk h.size) (fun e => by have := hr k e.symm; omega)).trans (h.block k hk hne)⟩
theorem EntsAt.grown {w w' : World} {ao : Option Addr} {es : List Ent} {cb : Nat} (h : EntsAt w ao es) (hg : w.grownBy w' (some cb)) (hne : ∀ a, ao = some a → ¬ a.block = cb) : EntsAt w' ao es := by
  intro h0
  obtain ⟨b, off, rfl, hc⟩ := h h0
  have hb : ¬ b = cb := hne _ rfl
  have hlt : b < w.heap.size := by
    obtain ⟨e, es', rfl⟩ := List.exists_cons_of_ne_nil h0
    have := (hc 0 e rfl).1
    rcases Nat.lt_or_ge b w.heap.size with h' | h'
    · exact h'
    · simp [World.cell?, Array.getElem?_eq_none h'] at this
  have hcell : ∀ o, w'.cell? ⟨b, o, none⟩ = w.cell? ⟨b, o, none⟩ := fun o => by
    unfold World.cell?
    rw [hg.block b hlt (by simpa using hb)]
  exact ⟨b, off, rfl, fun i e he => by rw [hcell, hcell, hcell]; exact hc i e he⟩
/-- Between two rounds of Write. -/
structure WrI (w : World) (cb : Nat) (b : Int) (es : List Ent) (M0 : CM) (pre : List Nat) (W : World) : Prop where
  ok : (goW b M0 (pre.map (partE 2 es))).2 = 0
  chip : ChipAt W cb (goW b M0 (pre.map (partE 2 es))).1
  left : (goW b M0 (pre.map (partE 2 es))).1.left ≤ 9223372036854775807
  grow : w.grownBy W (some cb)
  c : Blk W w.heap.size #[.pointer (some ⟨cb, 0, none⟩)] 31
  n : Blk W (w.heap.size + 1) #[.int .i64 b] 3
  r : Blk W (w.heap.size + 2) #[.nilIface] 28
/-- A round has left. -/
structure WrX (w : World) (cb : Nat) (b : Int) (es : List Ent) (M0 : CM) (pre : List Nat) (W : World) : Prop where
  bad : ¬ (goW b M0 (pre.map (partE 2 es))).2 = 0
  chip : ChipAt W cb (goW b M0 (pre.map (partE 2 es))).1
  grow : w.grownBy W (some cb)
  r : Blk W (w.heap.size + 2) #[errV (goW b M0 (pre.map (partE 2 es))).2] 28
theorem WrI.own {w : World} {cb : Nat} {b : Int} {es : List Ent} {M0 : CM} {B : Nat} (hB : w.heap.size ≤ B) : OwnFrom B (WrI w cb b es M0) := fun _ _ _ _ h hg hr =>
  ⟨h.ok, h.chip.kept hg (fun r e => (hr r e).2), h.left, grow_kept h.grow hB hg (fun r e => (hr r e).1), h.c.kept hg (fun r e => (hr r e).2), h.n.kept hg (fun r e => (hr r e).2), h.r.kept hg (fun r e => (hr r e).2)⟩
theorem WrX.own {w : World} {cb : Nat} {b : Int} {es : List Ent} {M0 : CM} {B : Nat} (hB : w.heap.size ≤ B) (q : Prop) : OwnFrom B (fun pre W => q ∧ WrX w cb b es M0 pre W) := fun _ _ _ _ h hg hr =>
  ⟨h.1, h.2.bad, h.2.chip.kept hg (fun r e => (hr r e).2), grow_kept h.2.grow hB hg (fun r e => (hr r e).1), h.2.r.kept hg (fun r e => (hr r e).2)⟩
set_option maxRecDepth 100000 in
set_option maxHeartbeats 4000000 in
theorem tabWrite_main (cb : Nat) (b : Int) (ao : Option Addr) (cap : Nat) (es : List Ent) (M : CM) (w : World) (h : ChipAt w cb M) (hub : M.left ≤ 9223372036854775807) (hwr : WrOk M) (hl : es.length ≤ 14) (hcap : es.length ≤ cap) (hks : ∀ e ∈ es, e.key.size ≤ 8) (hes : EntsAt w ao es) (hne : ∀ a, ao = some a → ¬ a.block = cb)
    (hz : tabF es = 0) (he : eraseE M b = 0) (hw : writeE (eraseM M b) b (headT es) = 0) :
    Calls Tryz.prog 85 #[.pointer (some ⟨cb, 0, none⟩), .int .i64 b, .slice ao es.length cap] w fun e w' => e = .returned (errV (goW b (writeM (eraseM M b) b (headT es)) (partsE 2 es)).2) ∧ ChipAt w' cb (goW b (writeM (eraseM M b) b (headT es)) (partsE 2 es)).1 ∧ w.grownBy w' (some cb) := by
  have hclt := h.lt
  have HC : Hid (∀ W, Ext w W → Calls Tryz.prog 106 #[.slice ao es.length cap] W fun e w' => e = .returned .nilIface ∧ Ext W w') := fun W hx => by
    have := tabCheck_any ao cap es W (by omega) (hes.ext hx); rw [hz] at this; exact this
  have HE : Hid (∀ W, Ext w W → Calls Tryz.prog 66 #[.pointer (some ⟨cb, 0, none⟩), .int .i64 b] W fun e w' => e = .returned .nilIface ∧ ChipAt w' cb (eraseM M b) ∧ W.grownBy w' (some cb)) := fun W hx => by
    have := erase_any cb b M W (h.ext hx) hub hwr; rw [he] at this; exact this
  have HH : Hid (∀ W, w.grownBy W (some cb) → Calls Tryz.prog 108 #[.slice ao es.length cap] W fun e w' => e = .returned (.string (headT es)) ∧ Ext W w') := fun W hx => head_any ao cap es W hl hks (hes.grown hx hne)
  have HL1 : (eraseM M b).left ≤ 9223372036854775807 := eraseM_left' M b hub (by decide)
  have HW : Hid (∀ W, ChipAt W cb (eraseM M b) → Calls Tryz.prog 45 #[.pointer (some ⟨cb, 0, none⟩), .int .i64 b, .string (headT es)] W fun e w' => e = .returned .nilIface ∧ ChipAt w' cb (writeM (eraseM M b) b (headT es)) ∧ W.grownBy w' (some cb)) := fun W hc => by
    have := write_any cb b (headT es) (eraseM M b) W hc HL1 (by rw [headT_size]; decide); rw [hw] at this; exact this
  have HL2 : (writeM (eraseM M b) b (headT es)).left ≤ 9223372036854775807 := writeM_left' _ b _ HL1 (by decide)
  have HWW : Hid (∀ (M' : CM) (s : ByteArray) W, ChipAt W cb M' → M'.left ≤ 9223372036854775807 → s.size ≤ 9223372036854775807 → Calls Tryz.prog 45 #[.pointer (some ⟨cb, 0, none⟩), .int .i64 b, .string s] W fun e w' => e = .returned (errV (writeE M' b s)) ∧ ChipAt w' cb (writeM M' b s) ∧ W.grownBy w' (some cb)) := fun M' s W hc hl hs => write_any cb b s M' W hc hl hs
  clear hz he hw hub hwr h
  generalize headT es = T at *
  generalize writeM (eraseM M b) b T = M0 at *
  generalize eraseM M b = M1 at *
  refine callsIn_wide.1 (callsIn_of_wp_marks (n := 5) Tryz.func85 rfl trivial ?_ rfl)
  simp only [Tryz.ntmps85, List.size_toArray, List.length_cons, List.length_nil, Nat.reduceAdd, Nat.reduceSub, Array.replicate_succ, Array.replicate_zero, List.push_toArray, List.append_toArray, List.nil_append, List.cons_append]
  rw [wpIn_wide]
  have hx0 : Ext w (((w.alloc (.cells #[.pointer (some ⟨cb, 0, none⟩)] 31)).alloc (.cells #[.int .i64 b] 3)).alloc (.cells #[.nilIface] 28)) := (((Ext.refl w).alloc _).alloc _).alloc _
  have b3 : Blk (((w.alloc (.cells #[.pointer (some ⟨cb, 0, none⟩)] 31)).alloc (.cells #[.int .i64 b] 3)).alloc (.cells #[.nilIface] 28)) w.heap.size #[.pointer (some ⟨cb, 0, none⟩)] 31 := ((Blk.new w _ _).alloc _).alloc _
  have b4 : Blk (((w.alloc (.cells #[.pointer (some ⟨cb, 0, none⟩)] 31)).alloc (.cells #[.int .i64 b] 3)).alloc (.cells #[.nilIface] 28)) (w.heap.size + 1) #[.int .i64 b] 3 := (Blk.new' _ _ _ (by simp)).alloc _
  have b6 : Blk (((w.alloc (.cells #[.pointer (some ⟨cb, 0, none⟩)] 31)).alloc (.cells #[.int .i64 b] 3)).alloc (.cells #[.nilIface] 28)) (w.heap.size + 2) #[.nilIface] 28 := Blk.new' _ _ _ (by simp)
  have hcn : ¬ w.heap.size = cb := by omega
  have hcn1 : ¬ w.heap.size + 1 = cb := by omega
  have hcn2 : ¬ w.heap.size + 2 = cb := by omega
  go_wp2_with (first
    | (go_at_call 106; refine (HC.out _ hx0).mono ?_; rintro e w1 ⟨rfl, hx1⟩; have k3 := (Blk.ext hx1 b3).cell 0; have k4 := (Blk.ext hx1 b4).cell 0)
    | (go_at_call 66; refine (HE.out _ (hx0.trans hx1)).mono ?_; rintro e w2 ⟨rfl, hc2, hg2⟩))
  have q3 := (Blk.ext hx1 b3).grown hg2 hcn
  have q4 := (Blk.ext hx1 b4).grown hg2 hcn1
  have q6 := (Blk.ext hx1 b6).grown hg2 hcn2
  have hgw2 : w.grownBy w2 (some cb) := grow_trans (grow_ext (hx0.trans hx1) _) hg2
  clear b3 b4 b6 hx0 k3 k4 hg2 hx1
  have z3 := q3.cell 0
  have z4 := q4.cell 0
  have HHH : Hid (∀ W, Ext w2 W → Calls Tryz.prog 108 #[.slice ao es.length cap] W fun e w' => e = .returned (.string T) ∧ Ext W w') := fun W hx => HH.out W (grow_trans hgw2 (grow_ext hx _))
  go_region_held3 (fun w' => w'.cell? ⟨w.heap.size, 0, none⟩ = some (.pointer (some ⟨cb, 0, none⟩)) ∧ w'.cell? ⟨w.heap.size + 1, 0, none⟩ = some (.int .i64 b))
    (first | (refine ⟨?_, ?_⟩; (simpa using z3); (simpa using z4); done) | (refine ⟨?_, ?_⟩; (exact (q3.drew.ext hx3).cell 0); (exact (q4.drew.ext hx3).cell 0); done) | (refine ⟨?_, ?_⟩; (exact ((q3.drew.ext hx3).grown hg4 hcn).cell 0); (exact ((q4.drew.ext hx3).grown hg4 hcn1).cell 0); done))
    (first | (go_at_call 108; refine (HHH.out _ (Ext.refl _).drew).mono ?_; rintro e w3 ⟨rfl, hx3⟩) | (go_at_call 45; refine (HW.out _ (hc2.ext ((Ext.refl w2).drew.trans hx3))).mono ?_; rintro e w4 ⟨rfl, hc4, hg4⟩))
  have p3 := (q3.drew.ext hx3).grown hg4 hcn
  have p4 := (q4.drew.ext hx3).grown hg4 hcn1
  have p6 := (q6.drew.ext hx3).grown hg4 hcn2
  have hgw4 : w.grownBy w4 (some cb) := grow_trans hgw2 (grow_trans (grow_ext ((Ext.refl w2).drew.trans hx3) _) hg4)
  have HCH : Hid (Calls Tryz.prog 83 #[.slice ao es.length cap, .int .i64 2] w4 fun e w' => e = .returned (.func (.func 107) #[] #[.pointer (some ⟨w4.heap.size, 0, none⟩), .pointer (some ⟨w4.heap.size + 1, 0, none⟩)]) ∧
      Blk w' w4.heap.size #[.slice ao es.length cap] 37 ∧ Blk w' (w4.heap.size + 1) #[.int .i64 ((2 : Nat) : Int)] 3 ∧ Ext w4 w' ∧ w'.heap.size = w4.heap.size + 2) := (chunk_any ao es.length cap 2 w4 (by decide) (by decide)).mono fun e w' ⟨he, hw⟩ => by
    subst hw
    exact ⟨he, (Blk.new _ _ _).alloc _, Blk.new' _ _ _ (by simp), ((Ext.refl _).alloc _).alloc _, by simp⟩
  have hcl4 := hc4.lt
  have hs4 : w.heap.size + 2 < w4.heap.size := p6.lt
  clear q3 q4 q6 z3 z4 hx3 hg4 hgw2 hc2 HH HHH HW HE HC HL1
  go_wp2_with (go_at_call 83; refine HCH.out.mono ?_; rintro e w5 ⟨rfl, hsb, hnb, hx5, hs5⟩)
  have hB5 : w.heap.size ≤ w5.heap.size := by omega
  have I0 : WrI w cb b es M0 [] w5 := ⟨rfl, hc4.ext hx5, HL2, grow_trans hgw4 (grow_ext hx5 _), p3.ext hx5, p4.ext hx5, p6.ext hx5⟩
  have hse : ∀ W, w.grownBy W (some cb) → EntsAt W ao es := fun W hg => hes.grown hg hne
  rw [← wpIn_wide (n := 5)]
  apply wpIn_rangeFunc_ownG (Kp := KeepB w4.heap.size (w4.heap.size + 1)) (encs := fun x : Nat => #[partV ao 2 es.length x]) rfl (by decide) (gf := 107) (lb := #[.pointer (some ⟨w4.heap.size, 0, none⟩), .pointer (some ⟨w4.heap.size + 1, 0, none⟩)]) rfl trivial (enters_of Tryz.func107 (by kernel_rfl) rfl)
    (chunk_stops 4 w4.heap.size (w4.heap.size + 1) 2 cap ao es (by decide) (by decide) (by omega) hcap w5 hsb hnb) KeepB.trans (fun W l o o' _ hl hc _ => KeepB.put o' hl hc) (Below.refl _ _) (fun _ => rfl)
    (WrI w cb b es M0) (fun c pre W => c = .ret ∧ WrX w cb b es M0 pre W) (WrI.own hB5) (fun c => WrX.own hB5 _) I0
  case hassign =>
    intro l x W K hK
    gi_wp2
    exact hK
  case hbody =>
    rintro l pre x W hi hlen
    obtain ⟨ad, hv, hea⟩ := partV_at (hse W hi.grow) 2 x
    rw [hv]
    have hG : goW b M0 ((pre ++ [x]).map (partE 2 es)) = goW b (goW b M0 (pre.map (partE 2 es))).1 [partE 2 es x] := by
      rw [List.map_append, goW_app b _ _ _ hi.ok]; rfl
    have hpl : (partE 2 es x).length ≤ 200 := by rw [partE_len]; unfold partL; omega
    have HB : Hid (∀ n, CallsIn (Fence.wide.inRound l) n Tryz.prog 40 #[.slice ad (partE 2 es x).length (partE 2 es x).length] W fun e w' => e = .returned (.tuple #[.string (txt (bytesT (partE 2 es x)).1), errV (bytesT (partE 2 es x)).2]) ∧ Ext W w') := fun n => (callsIn_wide.2 (bytes_any ad _ (partE 2 es x) W hpl hea)).inRound l
    have hbs : (txt (bytesT (partE 2 es x)).1).size ≤ 9223372036854775807 := by
      have : (bytesT (partE 2 es x)).1.length ≤ 64 := by
        unfold bytesT; split
        · simp
        · split
          · simp
          · rename_i h; exact Nat.le_of_not_lt h
      show (bytesT (partE 2 es x)).1.toArray.size ≤ _
      simp; omega
    have HI : Hid (WrI w cb b es M0 pre W) := hi
    have y3 := hi.c.cell 0
    have y4 := hi.n.cell 0
    have y6 := hi.r.cell 0
    have y6f := hi.r.free 0
    have hW6 : w.heap.size + 2 < W.heap.size := hi.r.lt
    have hleft := hi.left
    have hch := hi.chip
    have HWx : Hid (∀ n W1, Ext W W1 → CallsIn (Fence.wide.inRound l) n Tryz.prog 45 #[.pointer (some ⟨cb, 0, none⟩), .int .i64 b, .string (txt (bytesT (partE 2 es x)).1)] W1 fun e w' => e = .returned (errV (writeE (goW b M0 (pre.map (partE 2 es))).1 b (txt (bytesT (partE 2 es x)).1))) ∧ ChipAt w' cb (writeM (goW b M0 (pre.map (partE 2 es))).1 b (txt (bytesT (partE 2 es x)).1)) ∧ W1.grownBy w' (some cb)) :=
      fun n W1 hx => (callsIn_wide.2 (HWW.out _ _ W1 (hch.ext hx) hleft hbs)).inRound l
    have hpost : ∀ W1 v, Ext W W1 → KeepsFrom w5.heap.size W (W1.setCell ⟨w.heap.size + 2, 0, none⟩ v) := fun W1 v hx =>
      (KeepsFrom.of_grownBy (grow_ext hx none) (fun j e => by cases e)).trans (KeepsFrom.of_grownBy (grow_set W1 _ 0 v) (fun j e => by cases e; omega))
    have hpost2 : ∀ W1 W2, Ext W W1 → W1.grownBy W2 (some cb) → KeepsFrom w5.heap.size W W2 := fun W1 W2 hx hg =>
      (KeepsFrom.of_grownBy (grow_ext hx none) (fun j e => by cases e)).trans (KeepsFrom.of_grownBy hg (fun j e => by cases e; omega))
    by_cases hb0 : (bytesT (partE 2 es x)).2 = 0
    · have HB0 : Hid (∀ n, CallsIn (Fence.wide.inRound l) n Tryz.prog 40 #[.slice ad (partE 2 es x).length (partE 2 es x).length] W fun e w' => e = .returned (.tuple #[.string (txt (bytesT (partE 2 es x)).1), .nilIface]) ∧ Ext W w') := fun n => by
        have := HB.out n; unfold errV at this; rw [if_pos hb0] at this; exact this
      by_cases hw0 : writeE (goW b M0 (pre.map (partE 2 es))).1 b (txt (bytesT (partE 2 es x)).1) = 0
      · have HG : Hid (goW b M0 ((pre ++ [x]).map (partE 2 es)) = (writeM (goW b M0 (pre.map (partE 2 es))).1 b (txt (bytesT (partE 2 es x)).1), 0)) := by
          unfold Hid; rw [hG]; simp [goW, hb0, hw0]
        have HW0 : Hid (∀ n W1, Ext W W1 → CallsIn (Fence.wide.inRound l) n Tryz.prog 45 #[.pointer (some ⟨cb, 0, none⟩), .int .i64 b, .string (txt (bytesT (partE 2 es x)).1)] W1 fun e w' => e = .returned .nilIface ∧ ChipAt w' cb (writeM (goW b M0 (pre.map (partE 2 es))).1 b (txt (bytesT (partE 2 es x)).1)) ∧ W1.grownBy w' (some cb)) := fun n W1 hx => by
          have := HWx.out n W1 hx; rw [hw0] at this; exact this
        have HL : Hid ((writeM (goW b M0 (pre.map (partE 2 es))).1 b (txt (bytesT (partE 2 es x)).1)).left ≤ 9223372036854775807) := writeM_left' _ b _ hleft (by decide)
        clear hb0 hw0 hG HB HWx hi hleft hch hea hse I0 hv
        generalize (goW b M0 (pre.map (partE 2 es))).1 = M' at *
        generalize (partE 2 es x).length = pl at *
        generalize txt (bytesT (partE 2 es x)).1 = tx at *
        gi_wp2_with (first
          | (refine ⟨trivial, ?_⟩; gi_at_call 40; refine (HB0.out _).mono ?_; rintro e W1 ⟨rfl, hx1⟩; have v3 := hx1.cell y3; have v4 := hx1.cell y4)
          | (refine ⟨trivial, ?_⟩; gi_at_call 45; refine (HW0.out _ _ hx1).mono ?_; rintro e W2 ⟨rfl, hc9, hg9⟩))
        have hi := HI.out
        refine ⟨hpost2 _ _ hx1 hg9, ⟨fun v t k => (k.ext hx1).grown hg9 (by omega), fun v t k => (k.ext hx1).grown hg9 (by omega)⟩, ?_⟩
        exact ⟨by rw [HG.out], by rw [HG.out]; exact hc9, by rw [HG.out]; exact HL.out, grow_trans hi.grow (grow_trans (grow_ext hx1 _) hg9), (hi.c.ext hx1).grown hg9 hcn, (hi.n.ext hx1).grown hg9 hcn1, (hi.r.ext hx1).grown hg9 hcn2⟩
      · have HG : Hid (goW b M0 ((pre ++ [x]).map (partE 2 es)) = (writeM (goW b M0 (pre.map (partE 2 es))).1 b (txt (bytesT (partE 2 es x)).1), writeE (goW b M0 (pre.map (partE 2 es))).1 b (txt (bytesT (partE 2 es x)).1))) := by
          unfold Hid; rw [hG]; simp [goW, hb0, hw0]
        have HW0 : Hid (∀ n W1, Ext W W1 → CallsIn (Fence.wide.inRound l) n Tryz.prog 45 #[.pointer (some ⟨cb, 0, none⟩), .int .i64 b, .string (txt (bytesT (partE 2 es x)).1)] W1 fun e w' => e = .returned (.iface 88 (.int .i64 (writeE (goW b M0 (pre.map (partE 2 es))).1 b (txt (bytesT (partE 2 es x)).1)))) ∧ ChipAt w' cb (writeM (goW b M0 (pre.map (partE 2 es))).1 b (txt (bytesT (partE 2 es x)).1)) ∧ W1.grownBy w' (some cb)) := fun n W1 hx => by
          have := HWx.out n W1 hx; unfold errV at this; rw [if_neg hw0] at this; exact this
        have HN : Hid (¬ writeE (goW b M0 (pre.map (partE 2 es))).1 b (txt (bytesT (partE 2 es x)).1) = 0) := hw0
        clear hb0 hw0 hG HB HWx hi hleft hch hea hse I0 hv
        generalize writeE (goW b M0 (pre.map (partE 2 es))).1 b (txt (bytesT (partE 2 es x)).1) = f at *
        generalize writeM (goW b M0 (pre.map (partE 2 es))).1 b (txt (bytesT (partE 2 es x)).1) = M' at *
        generalize (partE 2 es x).length = pl at *
        generalize txt (bytesT (partE 2 es x)).1 = tx at *
        gi_wp2_with (first
          | (refine ⟨trivial, ?_⟩; gi_at_call 40; refine (HB0.out _).mono ?_; rintro e W1 ⟨rfl, hx1⟩; have v3 := hx1.cell y3; have v4 := hx1.cell y4)
          | (refine ⟨trivial, ?_⟩; gi_at_call 45; refine (HW0.out _ _ hx1).mono ?_; rintro e W2 ⟨rfl, hc9, hg9⟩; have v6 := ((HI.out.r.ext hx1).grown hg9 hcn2).cell 0; have v6f := ((HI.out.r.ext hx1).grown hg9 hcn2).free 0))
        have hi := HI.out
        have b6 := (hi.r.ext hx1).grown hg9 hcn2
        refine ⟨(hpost2 _ _ hx1 hg9).trans (KeepsFrom.of_grownBy (grow_set W2 _ 0 _) (fun j e => by cases e; omega)), rfl, ?_⟩
        refine ⟨by rw [HG.out]; exact HN.out, ?_, ?_, ?_⟩
        · rw [HG.out]; exact hc9.setBox hcn2 b6 rfl 0 _
        · exact grow_kept (grow_trans hi.grow (grow_trans (grow_ext hx1 _) hg9)) (Nat.le_refl _) (grow_set W2 _ 0 _) (fun r e => by cases e; omega)
        · rw [HG.out]; unfold errV; rw [if_neg HN.out]; exact b6.set 0 _
    · have HB0 : Hid (∀ n, CallsIn (Fence.wide.inRound l) n Tryz.prog 40 #[.slice ad (partE 2 es x).length (partE 2 es x).length] W fun e w' => e = .returned (.tuple #[.string (txt (bytesT (partE 2 es x)).1), .iface 88 (.int .i64 (bytesT (partE 2 es x)).2)]) ∧ Ext W w') := fun n => by
        have := HB.out n; unfold errV at this; rw [if_neg hb0] at this; exact this
      have HG : Hid (goW b M0 ((pre ++ [x]).map (partE 2 es)) = ((goW b M0 (pre.map (partE 2 es))).1, (bytesT (partE 2 es x)).2)) := by
        unfold Hid; rw [hG]; simp [goW, hb0]
      have HN : Hid (¬ (bytesT (partE 2 es x)).2 = 0) := hb0
      clear hb0 hG HB HWx hi hleft hea hse I0 hv
      generalize (bytesT (partE 2 es x)).2 = f at *
      generalize (goW b M0 (pre.map (partE 2 es))).1 = M' at *
      generalize (partE 2 es x).length = pl at *
      generalize txt (bytesT (partE 2 es x)).1 = tx at *
      gi_wp2_with (first
        | (refine ⟨trivial, ?_⟩; gi_at_call 40; refine (HB0.out _).mono ?_; rintro e W1 ⟨rfl, hx1⟩; have v6 := (HI.out.r.ext hx1).cell 0; have v6f := (HI.out.r.ext hx1).free 0))
      have hi := HI.out
      refine ⟨hpost _ _ hx1, rfl, ?_⟩
      refine ⟨by rw [HG.out]; exact HN.out, ?_, ?_, ?_⟩
      · rw [HG.out]; exact (hch.ext hx1).setBox hcn2 (hi.r.ext hx1) rfl 0 _
      · exact grow_kept (grow_trans hi.grow (grow_ext hx1 _)) (Nat.le_refl _) (grow_set W1 _ 0 _) (fun r e => by cases e; omega)
      · rw [HG.out]; unfold errV; rw [if_neg HN.out]; exact (hi.r.ext hx1).set 0 _
  case hdone =>
    rintro D xs W hD rfl hi hK
    have y6 := hi.r.cell 0
    have y6f := hi.r.free 0
    have hK' := (KeepsOthers.setCell W ⟨w.heap.size + 2, 0, none⟩ .nilIface).same D _ hK rfl
    have HI : Hid (WrI w cb b es M0 (List.range (partsN 2 es.length)) W) := hi
    clear hi
    go_wp2
    refine ⟨by simp, .inl ⟨_, _, rfl, run_takeDeferred hK', ?_⟩⟩
    have hi := HI.out
    have b6 : Blk ((W.setCell ⟨w.heap.size + 2, 0, none⟩ .nilIface).putObj D (.deferred none)) (w.heap.size + 2) #[.nilIface] 28 := (hi.r.set 0 .nilIface).putObj _ hK' rfl
    have hc5 := b6.cell 0
    refine ⟨.nilIface, ?_, ?_, ?_, ?_⟩
    · simp [results, Tryz.results85, go_sem, hc5]
    · have := hi.ok
      show Ending.returned .nilIface = .returned (errV (goW b M0 (partsE 2 es)).2)
      rw [show (goW b M0 (partsE 2 es)).2 = 0 from this]; rfl
    · exact (hi.chip.setBox hcn2 hi.r rfl 0 _).kept (grownBy_putObj' _ _ _) (fun r e => by cases e; exact ⟨_, hK', rfl⟩)
    · exact grow_kept (grow_kept hi.grow (Nat.le_refl _) (grow_set W _ 0 _) (fun r e => by cases e; omega)) (Nat.le_refl _) (grownBy_putObj' _ _ _) (fun r e => by cases e; omega)
  case hstop =>
    rintro D c pre W hD ⟨k, hk, rfl⟩ ⟨rfl, hi⟩ hK
    have HI : Hid (WrX w cb b es M0 (List.range (k + 1)) W) := hi
    have hG : goW b M0 (partsE 2 es) = goW b M0 ((List.range (k + 1)).map (partE 2 es)) := by
      obtain ⟨q, hq⟩ : ∃ q, partsN 2 es.length = k + 1 + q := ⟨partsN 2 es.length - (k + 1), by omega⟩
      unfold partsE
      rw [hq, List.range_add, List.map_append]
      exact goW_stop b _ _ _ hi.bad
    have HG : Hid (goW b M0 (partsE 2 es) = goW b M0 ((List.range (k + 1)).map (partE 2 es))) := hG
    clear hi hG
    gi_wp2
    refine ⟨by simp, .inl ⟨_, _, rfl, run_takeDeferred hK, ?_⟩⟩
    have hi := HI.out
    have b6 : Blk (W.putObj D (.deferred none)) (w.heap.size + 2) #[errV (goW b M0 ((List.range (k + 1)).map (partE 2 es))).2] 28 := hi.r.putObj _ hK rfl
    have hc5 := b6.cell 0
    refine ⟨errV (goW b M0 ((List.range (k + 1)).map (partE 2 es))).2, ?_, ?_, ?_, ?_⟩
    · simp [results, Tryz.results85, go_sem, hc5]
    · rw [HG.out]
    · rw [HG.out]; exact hi.chip.kept (grownBy_putObj' _ _ _) (fun r e => by cases e; exact ⟨_, hK, rfl⟩)
    · exact grow_kept hi.grow (Nat.le_refl _) (grownBy_putObj' _ _ _) (fun r e => by cases e; omega)
end Go.Proofs.YtjeinblcpejpnabGreatDoor
