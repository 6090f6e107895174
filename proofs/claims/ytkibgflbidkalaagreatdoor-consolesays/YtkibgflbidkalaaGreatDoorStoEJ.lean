/- StoE. -/
import Derived.Test.YtkibgflbidkalaaGreatDoorStoDJ
import Derived.RangeFuncNested
import Derived.OwnWalkIn

/- Tables are laid: lay. -/
namespace Go.Proofs.YtkibgflbidkalaaGreatDoor
open Go.RowKit Go.WideShapes Go.Shelf
attribute [local go_sem] Oper.semAt_some

theorem partV_blk {ao : Option Addr} {n len k : Nat} {ad : Option Addr} {x y : Nat} (h : partV ao n len k = .slice ad x y) : ∀ a, ad = some a → ∃ a0, ao = some a0 ∧ a.block = a0.block := by
  intro a ha
  unfold partV sliced at h
  simp only [Value.slice.injEq] at h
  obtain ⟨h1, _, _⟩ := h
  split at h1
  · exact ⟨a, by rw [h1, ha], rfl⟩
  · cases ao with
    | none => simp at h1; rw [← h1] at ha; cases ha
    | some a0 =>
      simp only [Option.map_some] at h1
      rw [← h1] at ha
      cases ha
      exact ⟨a0, rfl, by unfold Addr.add; split <;> rfl⟩
theorem ownsRow_kept {w w' : World} {base : Nat} {e : TypeId} {size : Nat} {v : Value} {n : Nat} {xs : List Value} (h : w.ownsRow base e size v n xs) (hk : ∀ g cs t, v.ownBlock = some g → w.heap[g]? = some (.cells cs t (0, 0)) → w'.heap[g]? = some (.cells cs t (0, 0))) : w'.ownsRow base e size v n xs := by
  obtain ⟨h1, h2⟩ := h
  refine ⟨h1, ?_⟩
  rcases h2 with h2 | ⟨g, cap, cur, rfl, hb, hh, h3⟩
  · exact .inl h2
  · exact .inr ⟨g, cap, cur, rfl, hb, hk g cur e rfl hh, h3⟩
def partC (es : List Ent) (x : Nat) : List Ent := partE 14 es (clipN (partsN 14 es.length) x)
theorem partC_mem {es : List Ent} {x : Nat} (h : 0 < partsN 14 es.length) : partC es x ∈ partsE 14 es := List.mem_map.2 ⟨clipN (partsN 14 es.length) x, List.mem_range.2 (clip_lt h), rfl⟩
theorem partC_range (es : List Ent) (k : Nat) (hk : k ≤ partsN 14 es.length) : (List.range k).map (partC es) = (List.range k).map (partE 14 es) := List.map_congr_left fun x hx => by unfold partC; rw [clip_of (by have := List.mem_range.1 hx; omega)]
def intsN (bs : List Nat) : List Int := bs.map (fun b : Nat => (b : Int))
theorem wpListIn_app_int {F : Fence} {n : Nat} {w : World} {ops : Array Oper} {rest : List Oper} {o : Oper} {a : Act} {Q : Exit → Act → World → Prop} (hgd : o.guard = none) (s x : Operand)
    (ho : o.op = .call { callee := .builtin .append, args := #[s, x], argTypes := #[71, 71] })
    (base : Nat) (v : Value) (es : List Int) (hs : a.eval s = v) (hl : w.ownsRow base 3 1 v es.length (rowI es)) (sb : Nat) (t : TypeId) (y : Int) (hx : a.eval x = .slice (some ⟨sb, 0, none⟩) 1 1)
    (hb : Blk w sb #[.int .i64 y] t) (hn : es.length ≤ 1000) (hbase : base ≤ w.heap.size)
    (h : ∀ v' w', w'.ownsRow base 3 1 v' (es ++ [y]).length (rowI (es ++ [y])) → w.grownBy w' v.ownBlock → wpListIn F n Tryz.prog ops Q rest (a.put o.dst v') w') : wpListIn F n Tryz.prog ops Q (o :: rest) a w := by
  obtain ⟨i0, hi, hz0, hz1, hz2⟩ := info_parts Tryz.info3
  refine wpListIn_append_own w hgd s x 71 ho base 3 i0 (.int .i64 0) 1 8 Tryz.underlying71 hi hz0 hz1 hz2 rfl (by decide) v es.length (rowI es) hs hl ⟨sb, 0, none⟩ 1 1 (rowI [y]) hx (by simp [rowI]) (fun j u hj => ?_) (rowI_one [y]) ?_ ?_ hbase ?_
  · cases j with
    | zero => simp [rowI] at hj; subst hj; show w.cell? _ = _; rw [show (⟨sb, 0, none⟩ : Addr).add 0 = ⟨sb, 0, none⟩ by simp [Addr.add], hb.cell]; rfl
    | succ j => simp [rowI] at hj
  · unfold maxLen; omega
  · omega
  · intro v' w' p q _
    refine h v' w' ?_ q
    rw [show rowI (es ++ [y]) = rowI es ++ rowI [y] by simp [rowI], List.length_append]; exact p
structure LyI (w : World) (cb ub : Nat) (es : List Ent) (M : CM) (L : List Int) (pre : List Nat) (W : World) : Prop where
  ok : (layS M L (pre.map (partC es))).e = 0
  chip : ChipAt W cb (layS M L (pre.map (partC es))).M
  used : Blk W ub (usedC (layS M L (pre.map (partC es))).L) 99
  kept : Kp w W [cb, ub]
  c : Blk W w.heap.size #[.pointer (some ⟨cb, 0, none⟩)] 41
  u : Blk W (w.heap.size + 1) #[.pointer (some ⟨ub, 0, none⟩)] 78
  r : Blk W (w.heap.size + 2) #[.slice none 0 0] 71
  f : Blk W (w.heap.size + 3) #[.nilIface] 25
  big : w.heap.size + 7 ≤ W.heap.size
  l : ∃ v, Blk W (w.heap.size + 4) #[v] 71 ∧ W.ownsRow (w.heap.size + 7) 3 1 v (layS M L (pre.map (partC es))).bs.length (rowI (intsN (layS M L (pre.map (partC es))).bs))
structure LyX (w : World) (cb ub : Nat) (es : List Ent) (M : CM) (L : List Int) (pre : List Nat) (W : World) : Prop where
  bad : ¬ (layS M L (pre.map (partC es))).e = 0
  chip : ChipAt W cb (layS M L (pre.map (partC es))).M
  used : Blk W ub (usedC (layS M L (pre.map (partC es))).L) 99
  kept : Kp w W [cb, ub]
  r : Blk W (w.heap.size + 2) #[.slice none 0 0] 71
  f : Blk W (w.heap.size + 3) #[errV (layS M L (pre.map (partC es))).e] 25
theorem Kp.kept {w W W' : World} {S : List Nat} {B : Nat} {row : Option Nat} (h : Kp w W S) (hB : w.heap.size ≤ B) (hg : W.grownBy W' row) (hr : ∀ r, row = some r → B ≤ r) : Kp w W' S :=
  ⟨hg.os.trans h.os, hg.tape.trans h.tape, hg.output.trans h.output, Nat.le_trans h.size hg.size, fun k hk hn => (hg.block k (Nat.lt_of_lt_of_le hk h.size) (fun e => by have := hr k e.symm; omega)).trans (h.blk k hk hn)⟩
theorem blk_row {W W' : World} {row : Option Nat} (hg : W.grownBy W' row) (hr : ∀ r, row = some r → ∃ o : Obj, W.heap[r]? = some o ∧ o.isCells = false) : ∀ (g : Nat) cs t, W.heap[g]? = some (.cells cs t (0, 0)) → W'.heap[g]? = some (.cells cs t (0, 0)) := fun g cs t h => by
  have := (Blk.kept (⟨h⟩ : Blk W g cs t) hg hr).blk
  exact this
theorem LyI.own {w : World} {cb ub : Nat} {es : List Ent} {M : CM} {L : List Int} {B : Nat} (hB : w.heap.size ≤ B) : OwnFrom B (LyI w cb ub es M L) := fun _ W W' _ h hg hr => by
  have hr2 := fun r e => (hr r e).2
  obtain ⟨v, l1, l2⟩ := h.l
  exact ⟨h.ok, h.chip.kept hg hr2, h.used.kept hg hr2, h.kept.kept hB hg (fun r e => (hr r e).1), h.c.kept hg hr2, h.u.kept hg hr2, h.r.kept hg hr2, h.f.kept hg hr2, Nat.le_trans h.big hg.size, v, l1.kept hg hr2, ownsRow_kept l2 (fun g cs t _ hh => blk_row hg hr2 g cs t hh)⟩
theorem LyX.own {w : World} {cb ub : Nat} {es : List Ent} {M : CM} {L : List Int} {B : Nat} (hB : w.heap.size ≤ B) (q : Prop) : OwnFrom B (fun pre W => q ∧ LyX w cb ub es M L pre W) := fun _ W W' _ h hg hr => by
  have hr2 := fun r e => (hr r e).2
  exact ⟨h.1, h.2.bad, h.2.chip.kept hg hr2, h.2.used.kept hg hr2, h.2.kept.kept hB hg (fun r e => (hr r e).1), h.2.r.kept hg hr2, h.2.f.kept hg hr2⟩
theorem Blk.far {W W' : World} {b : Nat} {cs : Array Value} {t : TypeId} {row : Option Nat} (h : Blk W b cs t) (hg : W.grownBy W' row) (hne : ∀ r, row = some r → ¬ b = r) : Blk W' b cs t :=
  ⟨by rw [hg.block b h.lt (fun e => hne b e.symm rfl)]; exact h.blk⟩
theorem ChipAt.far {W W' : World} {cb : Nat} {M : CM} {row : Option Nat} (h : ChipAt W cb M) (hp : M.pend = none) (hg : W.grownBy W' row) (hne : ∀ r, row = some r → ¬ cb = r) : ChipAt W' cb M := by
  obtain ⟨⟨cs, fv, h1, h2, h3⟩, h4⟩ := h
  refine ⟨⟨cs, fv, h1.far hg hne, h2, ?_⟩, h4⟩
  rw [hp] at h3 ⊢
  exact h3
theorem keepsFrom_own {B : Nat} {W W' : World} {base : Nat} {e : TypeId} {size : Nat} {v : Value} {n : Nat} {xs : List Value} (h : W.ownsRow base e size v n xs) (hg : W.grownBy W' v.ownBlock) : KeepsFrom B W W' :=
  ⟨hg.size, fun k o _ ho hc => by
    rw [hg.block k (Array.getElem?_eq_some_iff.1 ho).1 (fun e => ?_)]
    · exact ho
    · rcases h.2 with ⟨rfl, _⟩ | ⟨g, cap, cur, rfl, _, hh, _⟩
      · cases e
      · simp only [Value.ownBlock, Option.some.injEq] at e
        subst e
        rw [hh] at ho; cases ho; cases hc⟩
structure LayD (r : LR) (w w' : World) (cb ub : Nat) (e : Ending) : Prop where
  ret : ∃ ao c, e = .returned (.tuple #[.slice ao r.bs.length c, errV r.e]) ∧ NumsAt w' ao (intsN r.bs) ∧ ∀ a, ao = some a → w.heap.size ≤ a.block ∧ a.block < w'.heap.size
  chip : ChipAt w' cb r.M
  used : Blk w' ub (usedC r.L) 99
  kept : Kp w w' [cb, ub]
set_option maxRecDepth 100000 in
set_option maxHeartbeats 8000000 in
theorem lay_all (cb ub : Nat) (ao : Option Addr) (cap : Nat) (es : List Ent) (M : CM) (L : List Int) (w : World) (h : ChipAt w cb M) (hu : Blk w ub (usedC L) 99) (hne : ¬ ub = cb) (hub : M.left ≤ 9223372036854775807) (hp : M.pend = none) (hbw : ∀ b, M.bd b = true → M.wk b = true) (hwr : ∀ b, M.wr b ≤ 999998000)
    (hl : es.length ≤ 1000) (hcap : es.length ≤ cap) (hes : EntsAt w ao es) (hao : ∀ a, ao = some a → ¬ a.block = cb ∧ ¬ a.block = ub) (hz : ∀ p ∈ partsE 14 es, tabF p = 0) :
    Calls Tryz.prog 104 #[.pointer (some ⟨cb, 0, none⟩), .pointer (some ⟨ub, 0, none⟩), .slice ao es.length cap] w (fun e w' => LayD (layS M L (partsE 14 es)) w w' cb ub e) := by
  have hclt := h.lt
  have hult := hu.lt
  refine callsIn_wide.1 (callsIn_of_wp_marks (n := 5) Tryz.func104 rfl trivial ?_ rfl)
  simp only [Tryz.ntmps104, List.size_toArray, List.length_cons, List.length_nil, Nat.reduceAdd, Nat.reduceSub, Array.replicate_succ, Array.replicate_zero, List.push_toArray, List.append_toArray, List.nil_append, List.cons_append]
  rw [wpIn_wide]
  have hx0 : Ext w (((((w.alloc (.cells #[.pointer (some ⟨cb, 0, none⟩)] 41)).alloc (.cells #[.pointer (some ⟨ub, 0, none⟩)] 78)).alloc (.cells #[.slice none 0 0] 71)).alloc (.cells #[.nilIface] 25)).alloc (.cells #[.slice none 0 0] 71)) := (((((Ext.refl w).alloc _).alloc _).alloc _).alloc _).alloc _
  have HCH : Hid (∀ w4, Calls Tryz.prog 143 #[.slice ao es.length cap, .int .i64 14] w4 fun e w' => e = .returned (.func (.func 168) #[] #[.pointer (some ⟨w4.heap.size, 0, none⟩), .pointer (some ⟨w4.heap.size + 1, 0, none⟩)]) ∧
      Blk w' w4.heap.size #[.slice ao es.length cap] 31 ∧ Blk w' (w4.heap.size + 1) #[.int .i64 ((14 : Nat) : Int)] 3 ∧ Ext w4 w' ∧ w'.heap.size = w4.heap.size + 2) := fun w4 => (chunk_any ao es.length cap 14 w4 (by decide) (by decide)).mono fun e w' ⟨he, hw⟩ => by
    subst hw
    exact ⟨he, (Blk.new _ _ _).alloc _, Blk.new' _ _ _ (by simp), ((Ext.refl _).alloc _).alloc _, by simp⟩
  go_wp2_with (go_at_call 143; refine (HCH.out _).mono ?_; rintro e w5 ⟨rfl, hsb, hnb, hx5, hs5⟩)
  simp only [World.size_alloc] at hsb hnb hs5
  have hB5 : w.heap.size ≤ w5.heap.size := by omega
  have hc0 : ¬ w.heap.size = cb := by omega
  have hc1 : ¬ w.heap.size + 1 = cb := by omega
  have hc2 : ¬ w.heap.size + 2 = cb := by omega
  have hc3 : ¬ w.heap.size + 3 = cb := by omega
  have hc4 : ¬ w.heap.size + 4 = cb := by omega
  have hu0 : ¬ w.heap.size = ub := by omega
  have hu1 : ¬ w.heap.size + 1 = ub := by omega
  have hu2 : ¬ w.heap.size + 2 = ub := by omega
  have hu3 : ¬ w.heap.size + 3 = ub := by omega
  have hu4 : ¬ w.heap.size + 4 = ub := by omega
  have I0 : LyI w cb ub es M L [] w5 := by
    have hx := hx0.trans hx5
    refine ⟨rfl, h.ext hx, hu.ext hx, Kp.ofExt hx _, ?_, ?_, ?_, ?_, by omega, .slice none 0 0, ?_, ?_⟩
    · exact (((((Blk.new w _ _).alloc _).alloc _).alloc _).alloc _).ext hx5
    · exact ((((Blk.new' _ _ _ (by simp)).alloc _).alloc _).alloc _).ext hx5
    · exact (((Blk.new' _ _ _ (by simp)).alloc _).alloc _).ext hx5
    · exact ((Blk.new' _ _ _ (by simp)).alloc _).ext hx5
    · exact (Blk.new' _ _ _ (by simp)).ext hx5
    · exact World.ownsRow_nil w5 (w.heap.size + 7) 3 1
  have HADV : Hid (∀ pre : List Nat, 0 < partsN 14 es.length → (layS M L (pre.map (partC es))).e = 0 → LaidOk M L (pre.map (partC es)) (layS M L (pre.map (partC es))).M (layS M L (pre.map (partC es))).L (layS M L (pre.map (partC es))).bs) := fun pre h0 he => (layS_laid M L _ _ rfl he).ok hp hbw (fun p hp' => by
    obtain ⟨x, _, rfl⟩ := List.mem_map.1 hp'
    exact hz _ (partC_mem h0))
  have HES : Hid (∀ W, Kp w W [cb, ub] → EntsAt W ao es) := fun W hK => hes.kp hK (fun a ha => by have := hao a ha; simp [this.1, this.2])
  have HAO : Hid (∀ a, ao = some a → ¬ a.block = cb ∧ ¬ a.block = ub) := hao
  have HZ : Hid (∀ p ∈ partsE 14 es, tabF p = 0) := hz
  have HWR : Hid (∀ b, M.wr b ≤ 999998000) := hwr
  have HUB : Hid (M.left ≤ 9223372036854775807) := hub
  have HPN : Hid (M.pend = none) := hp
  clear hx0 hx5 HCH h hu hp hbw hwr hub hes hao hz
  rw [← wpIn_wide (n := 5)]
  apply wpIn_rangeFunc_ownH (Kp := KeepB (w.heap.size + 5) (w.heap.size + 6)) (encs := fun x : Nat => #[partV ao 14 es.length (clipN (partsN 14 es.length) x)]) rfl (by decide) (gf := 168) (lb := #[.pointer (some ⟨w.heap.size + 1 + 1 + 1 + 1 + 1, 0, none⟩), .pointer (some ⟨w.heap.size + 1 + 1 + 1 + 1 + 1 + 1, 0, none⟩)]) rfl trivial (enters_of Tryz.func168 (by kernel_rfl) rfl)
    (chunk_stopsC 4 (w.heap.size + 5) (w.heap.size + 6) 14 cap ao es (by decide) (by decide) (by omega) hcap w5 hsb hnb) KeepB.trans (fun W l o o' _ hl hc _ => KeepB.put o' hl hc) (Below.refl _ _) (fun _ => rfl)
    (LyI w cb ub es M L) (fun c pre W => c = .ret ∧ LyX w cb ub es M L pre W) (LyI.own hB5) (fun c => LyX.own hB5 _) I0
    (fun x a' W => ∃ pb, w.heap.size + 7 ≤ pb ∧ Blk W pb #[partV ao 14 es.length (clipN (partsN 14 es.length) x)] 31 ∧ a' = { tmps := #[.pointer (some ⟨cb, 0, none⟩), .pointer (some ⟨ub, 0, none⟩), .slice ao es.length cap, .pointer (some ⟨w.heap.size, 0, none⟩), .pointer (some ⟨w.heap.size + 1, 0, none⟩), undef, .pointer (some ⟨w.heap.size + 1 + 1, 0, none⟩), .pointer (some ⟨w.heap.size + 1 + 1 + 1, 0, none⟩), .pointer (some ⟨w.heap.size + 1 + 1 + 1 + 1, 0, none⟩), .pointer (some ⟨pb, 0, none⟩), undef, undef, .slice ao es.length cap, .func (.func 168) #[] #[.pointer (some ⟨w.heap.size + 1 + 1 + 1 + 1 + 1, 0, none⟩), .pointer (some ⟨w.heap.size + 1 + 1 + 1 + 1 + 1 + 1, 0, none⟩)], partV ao 14 es.length (clipN (partsN 14 es.length) x), undef, undef, undef, undef, undef, undef, undef, undef, undef, undef, undef, undef, undef, undef, undef], defers := [] })
    (fun x a' _ X Y row hs hg hr => by obtain ⟨pb, h1, h2, h3⟩ := hs; exact ⟨pb, h1, h2.kept hg (fun r e => (hr r e).2), h3⟩)
  case hassign =>
    rintro l pre x W K hi hK
    obtain ⟨ad, hv, _⟩ := partV_at (HES.out W hi.kept) 14 (clipN (partsN 14 es.length) x)
    rw [hv] at hK ⊢
    have HI : Hid (LyI w cb ub es M L pre W) := hi
    have HK : Hid (∀ a' W', KeepsFrom w5.heap.size W W' → KeepB (w.heap.size + 5) (w.heap.size + 6) W W' → LyI w cb ub es M L pre W' → (∃ pb, w.heap.size + 7 ≤ pb ∧ Blk W' pb #[.slice ad (partE 14 es (clipN (partsN 14 es.length) x)).length (partE 14 es (clipN (partsN 14 es.length) x)).length] 31 ∧ a' = { tmps := #[.pointer (some ⟨cb, 0, none⟩), .pointer (some ⟨ub, 0, none⟩), .slice ao es.length cap, .pointer (some ⟨w.heap.size, 0, none⟩), .pointer (some ⟨w.heap.size + 1, 0, none⟩), undef, .pointer (some ⟨w.heap.size + 1 + 1, 0, none⟩), .pointer (some ⟨w.heap.size + 1 + 1 + 1, 0, none⟩), .pointer (some ⟨w.heap.size + 1 + 1 + 1 + 1, 0, none⟩), .pointer (some ⟨pb, 0, none⟩), undef, undef, .slice ao es.length cap, .func (.func 168) #[] #[.pointer (some ⟨w.heap.size + 1 + 1 + 1 + 1 + 1, 0, none⟩), .pointer (some ⟨w.heap.size + 1 + 1 + 1 + 1 + 1 + 1, 0, none⟩)], .slice ad (partE 14 es (clipN (partsN 14 es.length) x)).length (partE 14 es (clipN (partsN 14 es.length) x)).length, undef, undef, undef, undef, undef, undef, undef, undef, undef, undef, undef, undef, undef, undef, undef], defers := [] }) → K a' W') := hK
    clear hK hv hi
    generalize (partE 14 es (clipN (partsN 14 es.length) x)).length = pl at *
    gi_wp2
    refine HK.out _ _ ((KeepsOthers.alloc _ _).from _) ⟨fun v t hb => hb.alloc _, fun v t hb => hb.alloc _⟩ ((LyI.own (B := w5.heap.size) hB5).alloc _ HI.out) ⟨W.heap.size, HI.out.big, Blk.new W _ _, rfl⟩
  case hbody =>
    rintro l pre x a' W hl0 ⟨lp, hlp⟩ hi ⟨pb, hpb, hB, rfl⟩ hlen
    obtain ⟨ad, hv, hea⟩ := partV_at (HES.out W hi.kept) 14 (clipN (partsN 14 es.length) x)
    have hab := partV_blk hv
    rw [hv] at hB ⊢
    have hpc : partE 14 es (clipN (partsN 14 es.length) x) = partC es x := rfl
    rw [hpc] at hB hea ⊢
    have hz : tabF (partC es x) = 0 := HZ.out _ (partC_mem (by omega))
    have hLO := HADV.out pre (by omega) hi.ok
    have hsn := layS_snoc (pre.map (partC es)) M L (partC es x) hi.ok
    have HMP : Hid ((pre ++ [x]).map (partC es) = pre.map (partC es) ++ [partC es x]) := by rw [Hid, List.map_append]; rfl
    have HC : Hid (∀ n, CallsIn (Fence.wide.inRound l) n Tryz.prog 22 #[.pointer (some ⟨cb, 0, none⟩), .pointer (some ⟨ub, 0, none⟩), .func (.func 144) #[] #[.pointer (some ⟨w.heap.size, 0, none⟩), .pointer (some ⟨pb, 0, none⟩)]] W fun e w' => ClaimD (claimS (rdTab (partC es x)) (layS M L (pre.map (partC es))).M (layS M L (pre.map (partC es))).L) W w' cb ub e) := fun n =>
      (callsIn_wide.2 ((claimT_any cb ub w.heap.size pb ad (partC es x).length (partC es x) _ _ W hi.chip hi.used hne (hLO.adv.leq _ HUB.out (by decide)) hLO.up (fun b => by have := (hLO.adv.wr b).1; have := HWR.out b; omega) hz (Nat.le_refl _) hea
        (fun a ha => by obtain ⟨a0, h1, h2⟩ := hab a ha; rw [h2]; exact HAO.out a0 h1) hi.c hB ⟨hc0, hu0⟩ ⟨by omega, by omega⟩).mono fun e w' h => h.det)).inRound l
    have HI : Hid (LyI w cb ub es M L pre W) := hi
    have y0 := hi.c.cell 0
    have y1 := hi.u.cell 0
    have hbig := hi.big
    obtain ⟨v, lv1, lv2⟩ := hi.l
    have HLV : Hid (W.ownsRow (w.heap.size + 7) 3 1 v (layS M L (pre.map (partC es))).bs.length (rowI (intsN (layS M L (pre.map (partC es))).bs))) := lv2
    have HBN : Hid ((layS M L (pre.map (partC es))).bs.length ≤ 100) := by
      have h1 := hLO.len
      have h2 : partsN 14 es.length ≤ 72 := by unfold partsN; omega
      rw [Hid, h1, List.length_map]; omega
    have HCU : Hid ((claimS (rdTab (partC es x)) (layS M L (pre.map (partC es))).M (layS M L (pre.map (partC es))).L).e = 0 → (claimS (rdTab (partC es x)) (layS M L (pre.map (partC es))).M (layS M L (pre.map (partC es))).L).M.pend = none) := fun h0 => by
      rcases ((claimS_is (rdTab (partC es x)) (layS M L (pre.map (partC es))).M (layS M L (pre.map (partC es))).L).ok (rdTab_ok hz) hLO.up hLO.bw).end_ with ⟨_, _, _, _, _, h5, _⟩ | ⟨h8, _⟩ | ⟨h9, _⟩
      · exact h5
      · rw [h8] at h0; cases h0
      · rw [h9] at h0; cases h0
    clear hv hab hpc hz hLO hea hi lv2 hB
    have hpost2 : ∀ W2, Kp W W2 [cb, ub] → KeepsFrom w5.heap.size W W2 := fun W2 hK => ⟨hK.size, fun k o hk ho _ => by rw [hK.blk k (Array.getElem?_eq_some_iff.1 ho).1 (by simp; omega)]; exact ho⟩
    have hkeep : ∀ W2, Kp W W2 [cb, ub] → KeepB (w.heap.size + 5) (w.heap.size + 6) W W2 := fun W2 hK => ⟨fun v t hb => hK.Blk hb (by simp; omega), fun v t hb => hK.Blk hb (by simp; omega)⟩
    by_cases he : (claimS (rdTab (partC es x)) (layS M L (pre.map (partC es))).M (layS M L (pre.map (partC es))).L).e = 0
    · rw [if_pos he] at hsn
      have HS : Hid (layS M L (pre.map (partC es) ++ [partC es x]) = ⟨(claimS (rdTab (partC es x)) (layS M L (pre.map (partC es))).M (layS M L (pre.map (partC es))).L).M, (claimS (rdTab (partC es x)) (layS M L (pre.map (partC es))).M (layS M L (pre.map (partC es))).L).L, (layS M L (pre.map (partC es))).bs ++ [(claimS (rdTab (partC es x)) (layS M L (pre.map (partC es))).M (layS M L (pre.map (partC es))).L).b], 0⟩) := hsn
      have HC0 : Hid (∀ n, CallsIn (Fence.wide.inRound l) n Tryz.prog 22 #[.pointer (some ⟨cb, 0, none⟩), .pointer (some ⟨ub, 0, none⟩), .func (.func 144) #[] #[.pointer (some ⟨w.heap.size, 0, none⟩), .pointer (some ⟨pb, 0, none⟩)]] W fun e w' => e = .returned (.tuple #[.int .i64 ((claimS (rdTab (partC es x)) (layS M L (pre.map (partC es))).M (layS M L (pre.map (partC es))).L).b : Int), .nilIface]) ∧ ChipAt w' cb (claimS (rdTab (partC es x)) (layS M L (pre.map (partC es))).M (layS M L (pre.map (partC es))).L).M ∧ Blk w' ub (usedC (claimS (rdTab (partC es x)) (layS M L (pre.map (partC es))).M (layS M L (pre.map (partC es))).L).L) 99 ∧ Kp W w' [cb, ub]) := fun n => (HC.out n).mono fun e w' h => ⟨by rw [h.ret, he]; rfl, h.chip, h.used, h.kept⟩
      have HCU2 : Hid ((claimS (rdTab (partC es x)) (layS M L (pre.map (partC es))).M (layS M L (pre.map (partC es))).L).M.pend = none) := HCU.out he
      clear HC he hsn HCU
      generalize claimS (rdTab (partC es x)) (layS M L (pre.map (partC es))).M (layS M L (pre.map (partC es))).L = cr at *
      generalize (layS M L (pre.map (partC es))).bs = bs at *
      generalize (partC es x).length = pl at *
      have HB9 : Hid (∀ W2, Kp W W2 [cb, ub] → Blk W2 (w.heap.size + 4) #[v] 71 ∧ W2.ownsRow (w.heap.size + 7) 3 1 v (intsN bs).length (rowI (intsN bs))) := fun W2 hK => ⟨hK.Blk lv1 (by simp; omega), by
        have := HLV.out
        rw [show bs.length = (intsN bs).length by simp [intsN]] at this
        refine ownsRow_kept this (fun g cs t hg hh => ?_)
        have hge := own_ge this g hg
        rw [hK.blk g (Array.getElem?_eq_some_iff.1 hh).1 (by simp; omega)]; exact hh⟩
      clear lv1
      gi_wp2_with (first
        | (refine ⟨trivial, ?_⟩; gi_at_call 22; refine (HC0.out _).mono ?_; rintro e W2 ⟨rfl, hc9, hu9, hk9⟩; have z4 := (HB9.out W2 hk9).1.cell 0)
        | (gi_at_builtin; refine wpListIn_app_int rfl _ _ rfl (w.heap.size + 7) v (intsN bs) rfl ?c1 _ 3 (cr.b : Int) rfl ?c2 ?c3 ?c4 ?_))
      case c1 => exact (HB9.out W2 hk9).2.alloc _
      case c2 => exact Blk.new W2 _ _
      case c3 => simp [intsN]; exact Nat.le_trans HBN.out (by omega)
      case c4 => have := hk9.size; simp; omega
      intro v' W4 hO hG
      obtain ⟨ao', c', rfl⟩ := ownsRow_slice hO
      have hB9 := HB9.out W2 hk9
      have hOG := own_ge hB9.2
      have hO3 := hB9.2.alloc (.cells #[.int .i64 (cr.b : Int)] 3)
      have b4 : Blk W4 (w.heap.size + 4) #[v] 71 := (hB9.1.alloc _).far hG (fun r e => by have := hOG r e; omega)
      have z5 := b4.cell 0
      have z5f := b4.free 0
      have z5l := b4.lt
      have HO : Hid (W4.ownsRow (w.heap.size + 7) 3 1 (.slice ao' ((intsN bs).length + 1) c') ((intsN bs).length + 1) (rowI (intsN bs ++ [(cr.b : Int)]))) := hO
      have HNL : Hid ((intsN bs).length + 1 = (bs ++ [cr.b]).length) := by rw [Hid]; simp [intsN]
      have HB4 : Hid (Blk W4 (w.heap.size + 4) #[v] 71) := b4
      have HG : Hid ((W2.alloc (.cells #[.int .i64 (cr.b : Int)] 3)).grownBy W4 v.ownBlock) := hG
      have HOG : Hid (∀ r, v.ownBlock = some r → w.heap.size + 7 ≤ r) := hOG
      have HO3 : Hid ((W2.alloc (.cells #[.int .i64 (cr.b : Int)] 3)).ownsRow (w.heap.size + 7) 3 1 v (intsN bs).length (rowI (intsN bs))) := hO3
      clear hO hB9 hOG hO3 b4 hG HB9
      generalize (intsN bs).length + 1 = nl at *
      gi_wp2
      have hi := HI.out
      have hk4 : Kp w W4 [cb, ub] := ((hi.kept.trans hk9).trans (Kp.ofExt ((Ext.refl W2).alloc _) _)).kept (Nat.le_refl _) HG.out (fun r e => by have := HOG.out r e; omega)
      have far : ∀ {b : Nat} {cs : Array Value} {t : TypeId}, Blk W b cs t → b < w.heap.size + 7 → ¬ b = cb → ¬ b = ub → Blk W4 b cs t := fun hb h7 h1 h2 => ((hk9.Blk hb (by simp [h1, h2])).alloc _).far HG.out (fun r e => by have := HOG.out r e; omega)
      refine ⟨((hpost2 W2 hk9).trans ((KeepsOthers.alloc _ _).from _)).trans ((keepsFrom_own HO3.out HG.out).trans ((KeepsOthers.setCell _ _ _).from _)), ⟨fun v t hb => (far hb (by omega) (by omega) (by omega)).other (by simp only [ne_eq]; omega) _, fun v t hb => (far hb (by omega) (by omega) (by omega)).other (by simp only [ne_eq]; omega) _⟩, ?_⟩
      have hcu := HCU2.out
      refine ⟨by rw [HMP.out, HS.out], by rw [HMP.out, HS.out]; exact ((hc9.ext ((Ext.refl W2).alloc _)).far hcu HG.out (fun r e => by have := HOG.out r e; omega)).oth hcu hc4 _ _, by rw [HMP.out, HS.out]; exact (((hu9.alloc _).far HG.out (fun r e => by have := HOG.out r e; omega)).other (by simp only [ne_eq]; omega) _), hk4.new (Kp.set W4 (S := [w.heap.size + 4]) (by simp) _) (by simp), (far hi.c (by omega) hc0 hu0).other (by simp only [ne_eq]; omega) _, (far hi.u (by omega) hc1 hu1).other (by simp only [ne_eq]; omega) _, (far hi.r (by omega) hc2 hu2).other (by simp only [ne_eq]; omega) _, (far hi.f (by omega) hc3 hu3).other (by simp only [ne_eq]; omega) _, ?_, _, HB4.out.set 0 _, ?_⟩
      · have h1 := hi.big; have h2 := hk9.size; have h3 := HG.out.size; simp at h3 ⊢; omega
      · rw [HMP.out, HS.out]
        have := HO.out
        rw [HNL.out] at this
        rw [show intsN bs ++ [(cr.b : Int)] = intsN (bs ++ [cr.b]) by simp [intsN]] at this
        rw [HNL.out]
        refine ownsRow_kept this (fun g cs t hg hh => ?_)
        have hge := own_ge this g hg
        rw [Below.heap_setCell _ _ _ _ (by simp; omega)]; exact hh
    · rw [if_neg he] at hsn
      have HS : Hid (layS M L (pre.map (partC es) ++ [partC es x]) = ⟨(claimS (rdTab (partC es x)) (layS M L (pre.map (partC es))).M (layS M L (pre.map (partC es))).L).M, (claimS (rdTab (partC es x)) (layS M L (pre.map (partC es))).M (layS M L (pre.map (partC es))).L).L, [], (claimS (rdTab (partC es x)) (layS M L (pre.map (partC es))).M (layS M L (pre.map (partC es))).L).e⟩) := hsn
      have HC0 : Hid (∀ n, CallsIn (Fence.wide.inRound l) n Tryz.prog 22 #[.pointer (some ⟨cb, 0, none⟩), .pointer (some ⟨ub, 0, none⟩), .func (.func 144) #[] #[.pointer (some ⟨w.heap.size, 0, none⟩), .pointer (some ⟨pb, 0, none⟩)]] W fun e w' => e = .returned (.tuple #[.int .i64 ((claimS (rdTab (partC es x)) (layS M L (pre.map (partC es))).M (layS M L (pre.map (partC es))).L).b : Int), .iface 39 (.int .i64 (claimS (rdTab (partC es x)) (layS M L (pre.map (partC es))).M (layS M L (pre.map (partC es))).L).e)]) ∧ ChipAt w' cb (claimS (rdTab (partC es x)) (layS M L (pre.map (partC es))).M (layS M L (pre.map (partC es))).L).M ∧ Blk w' ub (usedC (claimS (rdTab (partC es x)) (layS M L (pre.map (partC es))).M (layS M L (pre.map (partC es))).L).L) 99 ∧ Kp W w' [cb, ub]) := fun n => (HC.out n).mono fun e w' h => ⟨by rw [h.ret]; unfold errV; rw [if_neg he], h.chip, h.used, h.kept⟩
      have HN : Hid (¬ (claimS (rdTab (partC es x)) (layS M L (pre.map (partC es))).M (layS M L (pre.map (partC es))).L).e = 0) := he
      clear HC he hsn HCU
      generalize claimS (rdTab (partC es x)) (layS M L (pre.map (partC es))).M (layS M L (pre.map (partC es))).L = cr at *
      generalize (layS M L (pre.map (partC es))).bs = bs at *
      generalize (partC es x).length = pl at *
      have HB9 : Hid (∀ W2, Kp W W2 [cb, ub] → Blk W2 (w.heap.size + 2) #[.slice none 0 0] 71 ∧ Blk W2 (w.heap.size + 3) #[.nilIface] 25) := fun W2 hK => ⟨hK.Blk HI.out.r (by simp; omega), hK.Blk HI.out.f (by simp; omega)⟩
      clear lv1
      gi_wp2_with (first
        | (refine ⟨trivial, ?_⟩; gi_at_call 22; refine (HC0.out _).mono ?_; rintro e W2 ⟨rfl, hc9, hu9, hk9⟩; have z2 := (HB9.out W2 hk9).1.cell 0; have z2f := (HB9.out W2 hk9).1.free 0; have z3 := (HB9.out W2 hk9).2.cell 0; have z3f := (HB9.out W2 hk9).2.free 0; have z3l := (HB9.out W2 hk9).2.lt))
      have hi := HI.out
      have hB9 := HB9.out W2 hk9
      refine ⟨(hpost2 W2 hk9).trans (((KeepsOthers.setCell _ _ _).from _).trans ((KeepsOthers.setCell _ _ _).from _)), rfl, ?_⟩
      have hb2 : Blk (W2.setCell ⟨w.heap.size + 2, 0, none⟩ (.slice none 0 0)) (w.heap.size + 2) #[.slice none 0 0] 71 := hB9.1.set 0 _
      have hb3 : Blk (W2.setCell ⟨w.heap.size + 2, 0, none⟩ (.slice none 0 0)) (w.heap.size + 3) #[.nilIface] 25 := hB9.2.other (by simp only [ne_eq]; omega) _
      refine ⟨by rw [HMP.out, HS.out]; exact HN.out, by rw [HMP.out, HS.out]; exact (hc9.setBox hc2 hB9.1 rfl 0 _).setBox hc3 hb3 rfl 0 _, by rw [HMP.out, HS.out]; exact (hu9.other (by simp only [ne_eq]; omega) _).other (by simp only [ne_eq]; omega) _, ?_, hb2.other (by simp only [ne_eq]; omega) _, ?_⟩
      · exact ((hi.kept.trans hk9).new (Kp.set W2 (S := [w.heap.size + 2]) (by simp) _) (by simp)).new (Kp.set _ (S := [w.heap.size + 3]) (by simp) _) (by simp)
      · rw [HMP.out, HS.out]; unfold errV; rw [if_neg HN.out]; exact hb3.set 0 _
  case hdone =>
    rintro D xs W hD rfl hi hK
    obtain ⟨v, lv1, lv2⟩ := hi.l
    obtain ⟨va, vc, hv⟩ := ownsRow_slice lv2
    have hnums : NumsAt W va (intsN (layS M L ((List.range (partsN 14 es.length)).map (partC es))).bs) ∧ ∀ a, va = some a → w.heap.size + 7 ≤ a.block ∧ a.block < W.heap.size := by
      rcases lv2.2 with ⟨h1, h2⟩ | ⟨g, cap', cur, h1, h2, h3, _, _, _, h4⟩
      · rw [List.length_eq_zero_iff] at h2
        rw [hv] at h1
        simp only [Value.slice.injEq] at h1
        exact ⟨fun hne => absurd (by rw [h2]; rfl) hne, fun a ha => by rw [h1.1] at ha; cases ha⟩
      · rw [hv] at h1
        simp only [Value.slice.injEq] at h1
        obtain ⟨rfl, _, _⟩ := h1
        refine ⟨fun _ => ⟨g, 0, rfl, fun i x hx => ?_⟩, fun a ha => by cases ha; exact ⟨h2, (Array.getElem?_eq_some_iff.1 h3).1⟩⟩
        have hj : (rowI (intsN (layS M L ((List.range (partsN 14 es.length)).map (partC es))).bs))[i]? = some (.int .i64 x) := by simp [rowI, hx]
        rw [← h4, List.getElem?_take] at hj
        split at hj
        · simp only [World.cell?, h3]; simpa using hj
        · simp at hj
    rw [hv] at lv1
    have y4 := lv1.cell 0
    have y2 := hi.r.cell 0
    have y2f := hi.r.free 0
    have y3 := hi.f.cell 0
    have y3f := hi.f.free 0
    have y3l := hi.f.lt
    have HPR : Hid ((List.range (partsN 14 es.length)).map (partC es) = partsE 14 es) := by rw [Hid, partC_range es _ (Nat.le_refl _)]; rfl
    have HNU : Hid (NumsAt W va (intsN (layS M L ((List.range (partsN 14 es.length)).map (partC es))).bs) ∧ ∀ a, va = some a → w.heap.size + 7 ≤ a.block ∧ a.block < W.heap.size) := hnums
    have HI : Hid (LyI w cb ub es M L (List.range (partsN 14 es.length)) W) := hi
    have HKD : Hid (W.heap[D]? = some (.deferred (some []))) := hK
    clear hi lv1 lv2 hv hnums
    have hK' := (KeepsOthers.setCell (W.setCell ⟨w.heap.size + 2, 0, none⟩ (.slice va (layS M L ((List.range (partsN 14 es.length)).map (partC es))).bs.length vc)) ⟨w.heap.size + 3, 0, none⟩ .nilIface).same D _ ((KeepsOthers.setCell W ⟨w.heap.size + 2, 0, none⟩ (.slice va (layS M L ((List.range (partsN 14 es.length)).map (partC es))).bs.length vc)).same D _ hK rfl) rfl
    have HCU : Hid ((layS M L ((List.range (partsN 14 es.length)).map (partC es))).M.pend = none) := by
      rcases Nat.eq_zero_or_pos (partsN 14 es.length) with h0 | h0
      · rw [h0]; exact HPN.out
      · exact (HADV.out _ h0 HI.out.ok).up
    clear HADV
    generalize hbsl : (layS M L ((List.range (partsN 14 es.length)).map (partC es))).bs.length = bl at *
    have HBL : Hid ((layS M L ((List.range (partsN 14 es.length)).map (partC es))).bs.length = bl) := hbsl
    clear hbsl
    go_wp2
    refine ⟨by simp, .inl ⟨_, _, rfl, run_takeDeferred hK', ?_⟩⟩
    have hi := HI.out
    have b2 : Blk (W.setCell ⟨w.heap.size + 2, 0, none⟩ (.slice va bl vc)) (w.heap.size + 2) #[.slice va bl vc] 71 := hi.r.set 0 _
    have b3 : Blk (W.setCell ⟨w.heap.size + 2, 0, none⟩ (.slice va bl vc)) (w.heap.size + 3) #[.nilIface] 25 := hi.f.other (by simp only [ne_eq]; omega) _
    have d2 : Blk (((W.setCell ⟨w.heap.size + 2, 0, none⟩ (.slice va bl vc)).setCell ⟨w.heap.size + 3, 0, none⟩ .nilIface).putObj D (.deferred none)) (w.heap.size + 2) #[.slice va bl vc] 71 := (b2.other (by simp only [ne_eq]; omega) _).putObj _ hK' rfl
    have d3 : Blk (((W.setCell ⟨w.heap.size + 2, 0, none⟩ (.slice va bl vc)).setCell ⟨w.heap.size + 3, 0, none⟩ .nilIface).putObj D (.deferred none)) (w.heap.size + 3) #[.nilIface] 25 := (b3.set 0 .nilIface).putObj _ hK' rfl
    have e2 := d2.cell 0
    have e3 := d3.cell 0
    have hKp : Kp w (((W.setCell ⟨w.heap.size + 2, 0, none⟩ (.slice va bl vc)).setCell ⟨w.heap.size + 3, 0, none⟩ .nilIface).putObj D (.deferred none)) [cb, ub] := ((hi.kept.new (Kp.set W (S := [w.heap.size + 2]) (by simp) _) (by simp)).new (Kp.set _ (S := [w.heap.size + 3]) (by simp) _) (by simp)).kept (Nat.le_refl _) (grownBy_putObj' _ _ _) (fun r e => by cases e; omega)
    refine ⟨.tuple #[.slice va bl vc, .nilIface], ?_, ?_⟩
    · simp [results, Tryz.results104, go_sem, e2, e3]
    · rw [← HPR.out]
      refine ⟨⟨va, vc, by rw [hi.ok, HBL.out]; rfl, ?_, fun a ha => by have h1 := HNU.out.2 a ha; have h2 := (grownBy_putObj' ((W.setCell ⟨w.heap.size + 2, 0, none⟩ (.slice va bl vc)).setCell ⟨w.heap.size + 3, 0, none⟩ .nilIface) D (.deferred none)).size; simp at h2; exact ⟨by omega, by simp; omega⟩⟩, ?_, ?_, hKp⟩
      · intro hne
        obtain ⟨b, off, e, hc⟩ := HNU.out.1 hne
        refine ⟨b, off, e, fun i x hx => ?_⟩
        have hb7 := (HNU.out.2 _ e).1
        simp only at hb7
        have h1 := hc i x hx
        have hcs : ∀ (v1 v2 : Value), ((W.setCell ⟨w.heap.size + 2, 0, none⟩ v1).setCell ⟨w.heap.size + 3, 0, none⟩ v2).cell? ⟨b, off + i, none⟩ = some (.int .i64 x) := fun v1 v2 => by
          rw [cell_away _ (by omega), cell_away _ (by omega)]; exact h1
        have h2 := hcs (.slice va bl vc) .nilIface
        have hbD : ¬ b = D := fun e => by
          subst e
          simp only [World.cell?, hK'] at h2
          cases h2
        have := (grownBy_putObj' ((W.setCell ⟨w.heap.size + 2, 0, none⟩ (.slice va bl vc)).setCell ⟨w.heap.size + 3, 0, none⟩ .nilIface) D (.deferred none)).block b
        have hlt : b < ((W.setCell ⟨w.heap.size + 2, 0, none⟩ (.slice va bl vc)).setCell ⟨w.heap.size + 3, 0, none⟩ .nilIface).heap.size := by
          rcases Nat.lt_or_ge b ((W.setCell ⟨w.heap.size + 2, 0, none⟩ (.slice va bl vc)).setCell ⟨w.heap.size + 3, 0, none⟩ .nilIface).heap.size with h' | h'
          · exact h'
          · simp [World.cell?, Array.getElem?_eq_none h'] at h2
        have h3 := this hlt (fun e => hbD (by simpa using e))
        simp only [World.cell?, h3] at h2 ⊢
        exact h2
      · exact ((hi.chip.oth HCU.out hc2 _ _).oth HCU.out hc3 _ _).kept (grownBy_putObj' _ _ _) (fun r e => by cases e; exact ⟨_, hK', rfl⟩)
      · exact ((hi.used.other (by simp only [ne_eq]; omega) _).other (by simp only [ne_eq]; omega) _).putObj _ hK' rfl
  case hstop =>
    rintro D c pre W hD ⟨k, hk, rfl⟩ ⟨rfl, hi⟩ hK
    have HI : Hid (LyX w cb ub es M L (List.range (k + 1)) W) := hi
    have HG : Hid (layS M L (partsE 14 es) = layS M L ((List.range (k + 1)).map (partC es))) := by
      obtain ⟨q, hq⟩ : ∃ q, partsN 14 es.length = k + 1 + q := ⟨partsN 14 es.length - (k + 1), by omega⟩
      have e1 : partsE 14 es = (List.range (k + 1)).map (partC es) ++ ((List.range q).map (k + 1 + ·)).map (partE 14 es) := by
        rw [partC_range es _ (by omega)]
        unfold partsE
        rw [hq, List.range_add, List.map_append]
      rw [Hid, e1]
      exact layS_stop _ _ _ _ hi.bad
    clear hi
    gi_wp2
    refine ⟨by simp, .inl ⟨_, _, rfl, run_takeDeferred hK, ?_⟩⟩
    have hi := HI.out
    have d2 : Blk (W.putObj D (.deferred none)) (w.heap.size + 2) #[.slice none 0 0] 71 := hi.r.putObj _ hK rfl
    have d3 : Blk (W.putObj D (.deferred none)) (w.heap.size + 3) #[errV (layS M L ((List.range (k + 1)).map (partC es))).e] 25 := hi.f.putObj _ hK rfl
    have e2 := d2.cell 0
    have e3 := d3.cell 0
    have HBS : (layS M L ((List.range (k + 1)).map (partC es))).bs = [] := layS_nil hi.bad
    refine ⟨.tuple #[.slice none 0 0, errV (layS M L ((List.range (k + 1)).map (partC es))).e], ?_, ?_⟩
    · simp [results, Tryz.results104, go_sem, e2, e3]
    · rw [HG.out]
      refine ⟨⟨none, 0, by rw [HBS]; rfl, by rw [HBS]; exact fun h => absurd rfl h, fun a ha => by cases ha⟩, ?_, ?_, ?_⟩
      · exact hi.chip.kept (grownBy_putObj' _ _ _) (fun r e => by cases e; exact ⟨_, hK, rfl⟩)
      · exact hi.used.putObj _ hK rfl
      · exact hi.kept.kept (Nat.le_refl _) (grownBy_putObj' _ _ _) (fun r e => by cases e; omega)
end Go.Proofs.YtkibgflbidkalaaGreatDoor
