/- IntL ManA ManB. -/
import Derived.Test.YtkibgflbidkalaaGreatDoorWldJ
import Derived.Test.YtkibgflbidkalaaGreatDoorAppJ
import Derived.Lib.AppendZerosOnto
import Derived.Lib.AppendZeros
import Derived.Lib.SliceRun
import Derived.WalkLawsBesides
import Derived.Deep.QuietTactic
import Derived.BigQuiet
import Derived.Lib.Strings
import Derived.Lib.AppendStr
import Derived.Deep.AppendLies
import Derived.Laws.BitsLemmas

/- Lists of numbers: made, put together, held against each other. -/
namespace Go.Proofs.YtkibgflbidkalaaGreatDoor
open Go.RowKit

def NumsAt (w : World) (ao : Option Addr) (hs : List Int) : Prop :=
  hs ≠ [] → ∃ b off, ao = some ⟨b, off, none⟩ ∧ ∀ i x, hs[i]? = some x → w.cell? ⟨b, off + i, none⟩ = some (.int .i64 x)
theorem NumsAt.get {w : World} {ao : Option Addr} {hs : List Int} (h : NumsAt w ao hs) {k : Nat} (hk : k < hs.length) : ∃ b off x, ao = some ⟨b, off, none⟩ ∧ hs[k]? = some x ∧ w.cell? ⟨b, off + k, none⟩ = some (.int .i64 x) := by
  obtain ⟨b, off, rfl, hc⟩ := h (by intro e; subst e; simp at hk)
  have he : hs[k]? = some hs[k] := List.getElem?_eq_getElem hk
  exact ⟨b, off, hs[k], rfl, he, hc k _ he⟩
theorem NumsAt.ext {w w' : World} {ao : Option Addr} {hs : List Int} (h : NumsAt w ao hs) (hx : Ext w w') : NumsAt w' ao hs := fun hne => by
  obtain ⟨b, off, e, hc⟩ := h hne
  exact ⟨b, off, e, fun i x hxx => hx.cell (hc i x hxx)⟩
theorem NumsAt.nil (w : World) (ao : Option Addr) : NumsAt w ao [] := fun h => absurd rfl h
def rowI (xs : List Int) : List Value := xs.map (Value.int .i64)
theorem rowI_one (xs : List Int) : ∀ u ∈ rowI xs, u.oneCell' = true := by
  intro u hu; unfold rowI at hu; obtain ⟨t, _, rfl⟩ := List.mem_map.1 hu; rfl
theorem NumsAt.row {w : World} {ao : Option Addr} {xs : List Int} (h : NumsAt w ao xs) : rowI xs ≠ [] → ∃ ad, ao = some ad ∧ ∀ j u, (rowI xs)[j]? = some u → w.cell? (ad.add j) = some u := by
  intro hne
  obtain ⟨b, off, rfl, hc⟩ := h (by intro e; subst e; exact hne rfl)
  refine ⟨_, rfl, fun j u hu => ?_⟩
  have : ((⟨b, off, none⟩ : Addr).add j) = ⟨b, off + j, none⟩ := by unfold Addr.add; by_cases h : j = 0 <;> simp [h]
  rw [this]
  unfold rowI at hu
  rw [List.getElem?_map] at hu
  cases ht : xs[j]? with
  | none => rw [ht] at hu; simp at hu
  | some t => rw [ht] at hu; simp at hu; subst hu; exact hc j t ht
theorem Tryz.info3 : (Tryz.prog.info? 3).map (fun i => (i.zero, i.size, i.bytes)) = some (some (.int .i64 0), 1, 8) := by kernel_rfl
structure IL (W0 w : World) (v : Value) (xs : List Int) : Prop where
  own : w.ownsRow W0.heap.size 3 1 v xs.length (rowI xs)
  ext : Ext W0 w
theorem IL.nil {W0 w : World} (h : Ext W0 w) : IL W0 w (.slice none 0 0) [] := ⟨World.ownsRow_nil _ _ _ _, h⟩
theorem IL.alloc {W0 w : World} {v : Value} {xs : List Int} (h : IL W0 w v xs) (o : Obj) : IL W0 (w.alloc o) v xs := ⟨h.own.alloc o, h.ext.alloc o⟩
theorem IL.at {W0 w : World} {v : Value} {xs : List Int} (h : IL W0 w v xs) : ∃ ao cap, v = .slice ao xs.length cap ∧ NumsAt w ao xs := by
  obtain ⟨hlen, hcase⟩ := h.own
  rcases hcase with ⟨rfl, h0⟩ | ⟨g, cap, cur, rfl, _, hh, _, _, _, htake⟩
  · have : xs = [] := List.eq_nil_of_length_eq_zero h0
    subst this
    exact ⟨none, 0, rfl, NumsAt.nil _ _⟩
  · refine ⟨_, cap, rfl, fun _ => ⟨g, 0, rfl, fun i e he => ?_⟩⟩
    have hj : (rowI xs)[i]? = some (.int .i64 e) := by unfold rowI; rw [List.getElem?_map, he]; rfl
    rw [← htake, List.getElem?_take] at hj
    split at hj
    · simp only [World.cell?, hh, Nat.zero_add]; simpa using hj
    · simp at hj
theorem wpList_app_nums {w : World} {ops : Array Oper} {rest : List Oper} {o : Oper} {a : Act} {Q : Exit → Act → World → Prop} (hgd : o.guard = none) (s x : Operand)
    (ho : o.op = .call { callee := .builtin .append, args := #[s, x], argTypes := #[71, 71] })
    (W0 : World) (v : Value) (es : List Int) (hs : a.eval s = v) (hl : IL W0 w v es) (ao : Option Addr) (c : Nat) (fs : List Int) (hx : a.eval x = .slice ao fs.length c)
    (hfs : NumsAt w ao fs) (hn : es.length + fs.length ≤ 100000)
    (h : ∀ v' w', IL W0 w' v' (es ++ fs) → wpList Tryz.prog ops Q rest (a.put o.dst v') w') : wpList Tryz.prog ops Q (o :: rest) a w := by
  obtain ⟨i0, hi, hz0, hz1, hz2⟩ := info_parts Tryz.info3
  refine wpList_append_any hgd s x 71 ho W0.heap.size 3 i0 (.int .i64 0) 1 8 Tryz.underlying71 hi hz0 hz1 hz2 rfl (by decide) v es.length (rowI es) hs hl.own ao fs.length c (rowI fs) hx (by simp [rowI]) hfs.row (rowI_one fs) ?_ ?_ hl.ext.size ?_
  · unfold maxLen; omega
  · omega
  · intro v' w' p q
    refine h v' w' ⟨?_, hl.ext.grown q (own_ge hl.own)⟩
    rw [show rowI (es ++ fs) = rowI es ++ rowI fs by simp [rowI], List.length_append]; exact p
theorem nums_blk {w : World} {b : Nat} {x : Int} {t : TypeId} (h : Blk w b #[.int .i64 x] t) : NumsAt w (some ⟨b, 0, none⟩) [x] := fun _ => by
  refine ⟨b, 0, rfl, fun i y hy => ?_⟩
  cases i with
  | zero => simp at hy; subst hy; rw [Nat.zero_add, h.cell]; rfl
  | succ i => simp at hy

set_option maxRecDepth 20000 in
set_option maxHeartbeats 2000000 in
theorem grow_nil (n : Nat) (w : World) (hn : n ≤ 100000) : Calls Tryz.prog 77 #[.slice none 0 0, .int .i64 (n : Int)] w fun e w' => ∃ v, e = .returned v ∧ IL w w' v [] := by
  obtain ⟨i0, hi, hz0, hz1, hz2⟩ := info_parts Tryz.info3
  rcases Nat.eq_zero_or_pos n with rfl | hp
  · go_enter Tryz.func77, Tryz.ntmps77
    go_wp2
    go_ret
    exact ⟨_, rfl, IL.nil (Ext.refl _)⟩
  · have h1 : ¬ ((n : Int) < 0) := by omega
    have h4 : (0 : Int) < (n : Int) := by omega
    have hold : (Builtin.firstCells i0.size 0 (.slice none 0 0)).run Tryz.prog w.drew = .ok ([] : List Value).toArray w.drew := run_firstCells_none w.drew i0.size 0 0 0
    have hrz : ∀ ty, (Builtin.append_ #[71, 3] ty #[.slice none 0 0, .int .i64 (n : Int)]).run Tryz.prog w = _ := fun ty =>
      Lib.run_append_grow_zeros w 71 3 ty 3 i0 (.int .i64 0) .i64 .i64 Tryz.underlying71 Tryz.underlying3 hi hz0 none 0 0 [] hold n hp (by omega) (by omega) (by omega) (by rw [hz2]; omega)
        (by rw [hz2]; simp only [Builtin.nextslicecap]; split <;> omega)
    have hGn : 0 + n ≤ grownCap w (0 + n) 0 3 := grownCap_ge w _ _ _
    have hGl := grownCap_le_maxLen w (0 + n) 0 3 (by unfold maxLen; omega)
    generalize grownCap w (0 + n) 0 3 = G at *
    obtain ⟨C, hC⟩ : ∃ C, C = (([] : List Value).toArray ++ Builtin.zeroCells (Value.int .i64 0).cells n ++ Builtin.zeroCells (Value.int .i64 0).cells (G - (0 + n))) := ⟨_, rfl⟩
    have hCs : C.size = G := by rw [hC]; simp [Builtin.zeroCells, Value.cells]; omega
    rw [← hC] at hrz
    clear hC hold hi hz0 hz1 hz2
    rw [Nat.zero_add] at hrz
    go_enter Tryz.func77, Tryz.ntmps77
    go_wp2_with (at_builtin; refine Lib.wpList_append_run _ rfl _ _ _ _ rfl _ _ rfl rfl _ _ (hrz _) ?_)
    go_ret
    refine ⟨_, rfl, ⟨?_, ((Ext.refl w).alloc _).drew⟩⟩
    exact (World.ownsRow_made (base := w.heap.size) (e := 3) (size := 1) w C G (Nat.le_refl _) hGl (by omega)).drew

structure LI where
  xs : List Int
  ao : Option Addr
  cap : Nat
def ListsI (w : World) (ao : Option Addr) (ls : List LI) : Prop :=
  ls ≠ [] → ∃ b off, ao = some ⟨b, off, none⟩ ∧ ∀ i l, ls[i]? = some l → w.cell? ⟨b, off + i, none⟩ = some (.slice l.ao l.xs.length l.cap) ∧ NumsAt w l.ao l.xs
theorem ListsI.get {w : World} {ao : Option Addr} {ls : List LI} (h : ListsI w ao ls) {k : Nat} (hk : k < ls.length) :
    ∃ b off xs eo ec, ao = some ⟨b, off, none⟩ ∧ ls[k]? = some ⟨xs, eo, ec⟩ ∧ w.cell? ⟨b, off + k, none⟩ = some (.slice eo xs.length ec) ∧ NumsAt w eo xs := by
  obtain ⟨b, off, rfl, hc⟩ := h (by intro e; subst e; simp at hk)
  have he : ls[k]? = some ls[k] := List.getElem?_eq_getElem hk
  exact ⟨b, off, ls[k].xs, ls[k].ao, ls[k].cap, rfl, he, hc k _ he⟩
def cat (ls : List LI) : List Int := ls.flatMap LI.xs
theorem cat_step {ls : List LI} {k : Nat} {l : LI} (h : ls[k]? = some l) : cat (ls.take (k + 1)) = cat (ls.take k) ++ l.xs := by
  rw [List.take_add_one, h]; simp [cat]
theorem cat_le (ls : List LI) (k : Nat) : (cat (ls.take k)).length ≤ (cat ls).length := by
  have h : cat ls = cat (ls.take k) ++ cat (ls.drop k) := by unfold cat; rw [← List.flatMap_append, List.take_append_drop]
  rw [h]; simp

set_option maxRecDepth 20000 in
set_option maxHeartbeats 2000000 in
theorem concat_any (so : Option Addr) (sc : Nat) (ls : List LI) (w : World) (hll : ls.length ≤ 100) (hl : (cat ls).length ≤ 10000) (hA : ListsI w so ls) :
    Calls Tryz.prog 42 #[.slice so ls.length sc] w fun e w' => ∃ v, e = .returned v ∧ IL w w' v (cat ls) := by
  go_enter Tryz.func42, Tryz.ntmps42
  go_wp2
  go_loop [3, 5, 11] (fun z _ i => ∃ k : Nat, k ≤ ls.length ∧ i = .int .i64 k ∧ z = .int .i64 ((cat (ls.take k)).length : Int)) (fun _ _ i => ls.length - (intOf i).toNat)
  case atStart => exact ⟨0, Nat.zero_le _, rfl, rfl⟩
  case round =>
    obtain ⟨k, hk, rfl, rfl⟩ := hrel
    have hcl := cat_le ls k
    by_cases hlt : k < ls.length
    · obtain ⟨b, off, xs, eo, ec, rfl, he, h1, h2⟩ := hA.get hlt
      have hs := cat_step he
      have hcl2 := cat_le ls (k + 1)
      have hlen : (cat (ls.take (k + 1))).length = (cat (ls.take k)).length + xs.length := by rw [hs]; simp
      have HN : Hid (((cat (ls.take (k + 1))).length : Int) = ((cat (ls.take k)).length : Int) + (xs.length : Int)) := by unfold Hid; omega
      have HW : Hid (wrap64 (((cat (ls.take k)).length : Int) + (xs.length : Int)) = ((cat (ls.take k)).length : Int) + (xs.length : Int)) := by unfold Hid wrap64; omega
      have hw := HW.out
      have hpos : ¬ (((cat (ls.take k)).length : Int) + (xs.length : Int) < 0) := by omega
      clear he hA h2 hs hlen
      generalize (cat (ls.take k)).length = z at *
      go_wp2
      go_round
      case rel => exact ⟨k + 1, by omega, by go_num, by rw [HN.out]; exact congrArg (Value.int .i64) HW.out⟩
      case measure => simp [intOf]; omega
    · have hkn : ls.take k = ls := List.take_of_length_le (by omega)
      rw [hkn]
      have CG : Hid (Calls Tryz.prog 77 #[.slice none 0 0, .int .i64 ((cat ls).length : Int)] w fun e w' => ∃ v, e = .returned v ∧ IL w w' v []) := grow_nil (cat ls).length w (by omega)
      clear hkn hcl
      go_wp2_with (go_at_call 77; refine CG.out.mono ?_; rintro e w1 ⟨v1, rfl, hI⟩)
      go_loopw [6, 8, 27] (fun v _ i wr => ∃ k : Nat, k ≤ ls.length ∧ i = .int .i64 k ∧ IL w wr v (cat (ls.take k))) (fun _ _ i _ => ls.length - (intOf i).toNat)
      case atStart => exact ⟨0, Nat.zero_le _, rfl, hI⟩
      case round =>
        clear hI
        obtain ⟨k, hk, rfl, hI⟩ := hrel
        by_cases hlt : k < ls.length
        · obtain ⟨b, off, xs, eo, ec, rfl, he, h1, h2⟩ := hA.get hlt
          have HS : Hid (cat (ls.take (k + 1)) = cat (ls.take k) ++ xs) := cat_step he
          have hcl2 := cat_le ls (k + 1)
          have hlen : (cat (ls.take k)).length + xs.length ≤ 10000 := by rw [HS.out] at hcl2; simp at hcl2; omega
          have c1 := hI.ext.cell h1
          have c2 := h2.ext hI.ext
          clear he hA h1 h2 hcl2
          generalize cat (ls.take k) = z at *
          go_wp2_with (at_builtin; refine wpList_app_nums rfl _ _ rfl w _ z rfl hI eo ec xs rfl ?c1 ?c2 ?_)
          case c1 => exact c2
          case c2 => omega
          intro v2 w2 hI2
          clear hI c1 c2
          go_wp2
          go_roundw
          case rel => exact ⟨k + 1, by omega, by go_num, by rw [HS.out]; exact hI2⟩
          case measure => simp [intOf]; omega
        · have HE : Hid (cat ls = cat (ls.take k)) := by unfold Hid; rw [List.take_of_length_le (by omega)]
          clear hA
          go_wp2
          go_ret
          exact ⟨_, rfl, by rw [HE.out]; exact hI⟩

end Go.Proofs.YtkibgflbidkalaaGreatDoor

/- Manifests: Check. -/
namespace Go.Proofs.YtkibgflbidkalaaGreatDoor
open Go.RowKit

def scan (seen : List Int) : List Int → Int
  | [] => 0
  | b :: r => if b < 2 ∨ 24 ≤ b then 1 else if b ∈ seen then 3 else scan (seen ++ [b]) r
def manF (ep lg : Int) (nw od : List Int) : Int := if ep < 1 ∨ 100000 < ep then 1 else scan [] (lg :: (nw ++ od))
def errN (n : Int) : Value := if n = 0 then .nilIface else .iface 39 (.int .i64 n)
theorem scan_step (l : List Int) (k : Nat) (x : Int) (h : l[k]? = some x) : scan (l.take k) (l.drop k) = if x < 2 ∨ 24 ≤ x then 1 else if x ∈ l.take k then 3 else scan (l.take (k + 1)) (l.drop (k + 1)) := by
  obtain ⟨hlt, rfl⟩ := List.getElem?_eq_some_iff.1 h
  rw [List.drop_eq_getElem_cons hlt, scan, List.take_add_one, h]; rfl
def usedC (l : List Int) : Array Value := ((List.range 24).map fun i : Nat => Value.bool (decide ((i : Int) ∈ l))).toArray
theorem usedC_nil : usedC [] = #[.bool false, .bool false, .bool false, .bool false, .bool false, .bool false, .bool false, .bool false, .bool false, .bool false, .bool false, .bool false, .bool false, .bool false, .bool false, .bool false, .bool false, .bool false, .bool false, .bool false, .bool false, .bool false, .bool false, .bool false] := by rfl
theorem usedC_get (l : List Int) (n : Nat) (h : n < 24) : (usedC l)[n]? = some (.bool (decide ((n : Int) ∈ l))) := by
  simp [usedC, h]
theorem usedC_set (l : List Int) (n : Nat) : (usedC l).setIfInBounds n (.bool true) = usedC (l ++ [(n : Int)]) := by
  apply Array.ext
  · simp [usedC]
  · intro i h1 h2
    simp [usedC] at h1
    rw [Array.getElem_setIfInBounds (by simpa [usedC] using h1)]
    simp only [usedC, List.getElem_toArray, List.getElem_map, List.getElem_range]
    by_cases e : n = i
    · subst e; simp
    · rw [if_neg e]
      have : ¬ (i : Int) = (n : Int) := by omega
      simp [this]
theorem cell_away (W : World) {a b : Nat} (h : b ≠ a) (i j : Nat) (v : Value) : (W.setCell ⟨a, i, none⟩ v).cell? ⟨b, j, none⟩ = W.cell? ⟨b, j, none⟩ := by
  have := Below.heap_setCell W ⟨a, i, none⟩ v b h
  simp [World.cell?, this]
theorem NumsAt.set {w : World} {b off : Nat} {xs : List Int} (h : NumsAt w (some ⟨b, off, none⟩) xs) {a : Nat} (hne : b ≠ a) (i : Nat) (v : Value) : NumsAt (w.setCell ⟨a, i, none⟩ v) (some ⟨b, off, none⟩) xs := fun hx => by
  obtain ⟨b', off', e, hc⟩ := h hx
  cases e
  exact ⟨b, off, rfl, fun j x hj => by rw [cell_away _ hne]; exact hc j x hj⟩
theorem listsI3 {w : World} {b : Nat} {t : TypeId} (A B C : LI) (h : Blk w b #[.slice A.ao A.xs.length A.cap, .slice B.ao B.xs.length B.cap, .slice C.ao C.xs.length C.cap] t)
    (hA : NumsAt w A.ao A.xs) (hB : NumsAt w B.ao B.xs) (hC : NumsAt w C.ao C.xs) : ListsI w (some ⟨b, 0, none⟩) [A, B, C] := by
  intro _
  refine ⟨b, 0, rfl, fun i l hl => ?_⟩
  rw [Nat.zero_add, h.cell]
  match i with
  | 0 => simp at hl; subst hl; exact ⟨rfl, hA⟩
  | 1 => simp at hl; subst hl; exact ⟨rfl, hB⟩
  | 2 => simp at hl; subst hl; exact ⟨rfl, hC⟩
  | n + 3 => simp at hl
theorem concat3 (w : World) (b1 b2 : Nat) (lg : Int) (no oo : Option Addr) (nc oc : Nat) (nw od : List Int) (t1 t2 : TypeId) (h1 : Blk w b1 #[.int .i64 lg] t1) (h2 : Blk w b2 #[.slice (some ⟨b1, 0, none⟩) 1 1, .slice no nw.length nc, .slice oo od.length oc] t2)
    (hn : NumsAt w no nw) (ho : NumsAt w oo od) (hl : nw.length + od.length ≤ 100) :
    Calls Tryz.prog 42 #[.slice (some ⟨b2, 0, none⟩) 3 3] w fun e w' => ∃ b off c, e = .returned (.slice (some ⟨b, off, none⟩) (lg :: (nw ++ od)).length c) ∧ NumsAt w' (some ⟨b, off, none⟩) (lg :: (nw ++ od)) ∧ Ext w w' ∧ w.heap.size ≤ b ∧ b < w'.heap.size := by
  have hc : cat [⟨[lg], some ⟨b1, 0, none⟩, 1⟩, ⟨nw, no, nc⟩, ⟨od, oo, oc⟩] = lg :: (nw ++ od) := by simp [cat]
  have := concat_any (some ⟨b2, 0, none⟩) 3 [⟨[lg], some ⟨b1, 0, none⟩, 1⟩, ⟨nw, no, nc⟩, ⟨od, oo, oc⟩] w (by simp) (by rw [hc]; simp; omega) (listsI3 ⟨[lg], some ⟨b1, 0, none⟩, 1⟩ ⟨nw, no, nc⟩ ⟨od, oo, oc⟩ h2 (nums_blk h1) hn ho)
  rw [hc] at this
  refine this.mono ?_
  rintro e w' ⟨v, rfl, hI⟩
  obtain ⟨ao, cap, hv, ha⟩ := hI.at
  obtain ⟨b, off, rfl, _⟩ := id ha (by simp)
  have hlt := hI.own.lt b (by rw [hv]; rfl)
  exact ⟨b, off, cap, by rw [hv], ha, hI.ext, hlt⟩

set_option maxRecDepth 20000 in
set_option maxHeartbeats 4000000 in
theorem manCheck_any (ep lg : Int) (no oo : Option Addr) (nc oc : Nat) (nw od : List Int) (w : World) (hl : nw.length + od.length ≤ 100) (hn : NumsAt w no nw) (ho : NumsAt w oo od) :
    Calls Tryz.prog 113 #[.agg #[.int .i64 ep, .int .i64 lg, .slice no nw.length nc, .slice oo od.length oc]] w fun e w' => e = .returned (errN (manF ep lg nw od)) ∧ Ext w w' := by
  by_cases he : ep < 1 ∨ 100000 < ep
  · have HE : Hid (manF ep lg nw od = 1) := by unfold Hid manF; rw [if_pos he]
    by_cases he1 : ep < 1
    · clear he hn ho
      go_enter Tryz.func113, Tryz.ntmps113
      go_wp2
      go_ret
      exact ⟨by rw [HE.out]; rfl, (Ext.refl _).alloc _⟩
    · have he2 : 100000 < ep := by omega
      clear he hn ho
      go_enter Tryz.func113, Tryz.ntmps113
      go_wp2
      go_ret
      exact ⟨by rw [HE.out]; rfl, (Ext.refl _).alloc _⟩
  · have h1 : ¬ ep < 1 := by omega
    have h2 : ¬ 100000 < ep := by omega
    have HE : Hid (manF ep lg nw od = scan [] (lg :: (nw ++ od))) := by unfold Hid manF; rw [if_neg he]
    clear he
    have CC : Hid (∀ o1 o2 t1 t2, Calls Tryz.prog 42 #[.slice (some ⟨w.heap.size + 1 + 1 + 1, 0, none⟩) 3 3] ((((w.alloc o1).alloc o2).alloc (.cells #[.int .i64 lg] t1)).alloc (.cells #[.slice (some ⟨w.heap.size + 1 + 1, 0, none⟩) 1 1, .slice no nw.length nc, .slice oo od.length oc] t2)) fun e w' =>
        ∃ b off c, e = .returned (.slice (some ⟨b, off, none⟩) (lg :: (nw ++ od)).length c) ∧ NumsAt w' (some ⟨b, off, none⟩) (lg :: (nw ++ od)) ∧ Ext ((((w.alloc o1).alloc o2).alloc (.cells #[.int .i64 lg] t1)).alloc (.cells #[.slice (some ⟨w.heap.size + 1 + 1, 0, none⟩) 1 1, .slice no nw.length nc, .slice oo od.length oc] t2)) w' ∧
          w.heap.size + 1 + 1 + 1 + 1 ≤ b ∧ b < w'.heap.size) := fun o1 o2 t1 t2 => by
      have hx : Ext w ((((w.alloc o1).alloc o2).alloc (.cells #[.int .i64 lg] t1)).alloc (.cells #[.slice (some ⟨w.heap.size + 1 + 1, 0, none⟩) 1 1, .slice no nw.length nc, .slice oo od.length oc] t2)) := ((((Ext.refl w).alloc o1).alloc o2).alloc _).alloc _
      have := concat3 _ (w.heap.size + 1 + 1) (w.heap.size + 1 + 1 + 1) lg no oo nc oc nw od t1 t2 (Blk.alloc (Blk.new' ((w.alloc o1).alloc o2) #[.int .i64 lg] t1 (by simp)) (.cells #[.slice (some ⟨w.heap.size + 1 + 1, 0, none⟩) 1 1, .slice no nw.length nc, .slice oo od.length oc] t2)) (Blk.new' _ _ _ (by simp)) (hn.ext hx) (ho.ext hx) hl
      refine this.mono ?_
      rintro e w' ⟨b, off, c, h1, h2, h3, h4, h5⟩
      exact ⟨b, off, c, h1, h2, h3, by simpa using h4, h5⟩
    go_enter Tryz.func113, Tryz.ntmps113
    go_wp2_with (go_at_call 42; refine (CC.out _ _ _ _).mono ?_; rintro e w5 ⟨b, off, c, rfl, hN, hx, hb1, hb2⟩)
    have hU5 : Blk w5 (w.heap.size + 1) (usedC []) 99 := by
      rw [usedC_nil]
      exact Blk.ext hx (Blk.alloc (Blk.alloc (Blk.new' _ _ _ (by simp)) _) _)
    have hxw : Ext w w5 := Ext.trans ((((Ext.refl w).alloc _).alloc _).alloc _ |>.alloc _) hx
    have hbn : b ≠ w.heap.size + 1 := by omega
    have hus := hU5.lt
    clear hx CC hn ho hb1
    have hal : (lg :: (nw ++ od)).length ≤ 200 := by simp; omega
    have hlen : (lg :: (nw ++ od)).length = nw.length + od.length + 1 := by simp
    generalize lg :: (nw ++ od) = all at *
    have HLN : Hid (all.length = nw.length + od.length + 1) := hlen
    clear hlen
    have HS0 : scan [] all = scan (all.take 0) (all.drop 0) := by simp
    go_loopw [5, 25] (fun _ i wr => ∃ k : Nat, k ≤ all.length ∧ i = .int .i64 k ∧ scan [] all = scan (all.take k) (all.drop k) ∧ Blk wr (w.heap.size + 1) (usedC (all.take k)) 99 ∧ NumsAt wr (some ⟨b, off, none⟩) all ∧ Ext w wr) (fun _ i _ => all.length - (intOf i).toNat)
    case atStart => exact ⟨0, Nat.zero_le _, rfl, HS0, hU5, hN, hxw⟩
    case round =>
      clear hU5 hN hxw HS0
      obtain ⟨k, hk, rfl, hsc, hU, hN, hx⟩ := hrel
      by_cases hlt : k < all.length
      · obtain ⟨b', off', x, hbb, he, h1⟩ := hN.get hlt
        obtain ⟨rfl, rfl⟩ : b' = b ∧ off' = off := by simp at hbb; exact ⟨hbb.1.symm, hbb.2.symm⟩
        have hst := scan_step all k x he
        have hkI : (k : Int) < (nw.length : Int) + (od.length : Int) + 1 := by have := HLN.out; omega
        rw [hst] at hsc
        by_cases hr : x < 2 ∨ 24 ≤ x
        · rw [if_pos hr] at hsc
          have HSC : Hid (scan [] all = 1) := hsc
          clear hsc hst he hN hU
          by_cases hr1 : x < 2
          · clear hr
            go_wp2
            go_ret
            exact ⟨by rw [HE.out, HSC.out]; rfl, hx⟩
          · have hr2 : 24 ≤ x := by omega
            clear hr
            go_wp2
            go_ret
            exact ⟨by rw [HE.out, HSC.out]; rfl, hx⟩
        · rw [if_neg hr] at hsc
          obtain ⟨n, rfl⟩ : ∃ n : Nat, x = (n : Int) := ⟨x.toNat, by omega⟩
          have hn24 : n < 24 := by omega
          have hr1 : ¬ (n : Int) < 2 := by omega
          have hr2 : ¬ (24 : Int) ≤ (n : Int) := by omega
          have hr3 : (n : Int) < 24 := by omega
          have hu : wr.cell? ⟨w.heap.size + 1, n, none⟩ = some (.bool (decide ((n : Int) ∈ all.take k))) := by rw [hU.cell, usedC_get _ _ hn24]
          have huf := hU.free n
          have hul := hU.lt
          by_cases hin : (n : Int) ∈ all.take k
          · rw [if_pos hin] at hsc
            have HSC : Hid (scan [] all = 3) := hsc
            have hd : decide ((n : Int) ∈ all.take k) = true := by simpa using hin
            rw [hd] at hu
            clear hsc hst he hN hU hin hd hr
            go_wp2
            go_ret
            exact ⟨by rw [HE.out, HSC.out]; rfl, hx⟩
          · rw [if_neg hin] at hsc
            have hd : decide ((n : Int) ∈ all.take k) = false := by simpa using hin
            rw [hd] at hu
            have HSC : Hid (scan [] all = scan (all.take (k + 1)) (all.drop (k + 1))) := hsc
            have hU2 : Hid (Blk (wr.setCell ⟨w.heap.size + 1, n, none⟩ (.bool true)) (w.heap.size + 1) (usedC (all.take (k + 1))) 99) := by
              have := hU.set n (.bool true)
              rw [usedC_set] at this
              have e : all.take (k + 1) = all.take k ++ [(n : Int)] := by rw [List.take_add_one, he]; rfl
              rw [Hid, e]; exact this
            have hN2 : Hid (NumsAt (wr.setCell ⟨w.heap.size + 1, n, none⟩ (.bool true)) (some ⟨b', off', none⟩) all) := hN.set hbn _ _
            have hx2 : Hid (Ext w (wr.setCell ⟨w.heap.size + 1, n, none⟩ (.bool true))) := hx.set (by simp) _
            clear hsc hst he hN hU hin hd hr hx
            go_wp2
            go_roundw
            case rel => exact ⟨k + 1, by omega, by go_num, HSC.out, hU2.out, hN2.out, hx2.out⟩
            case measure => simp [intOf]; omega
      · have HSC : Hid (scan [] all = 0) := by rw [Hid, hsc, List.drop_of_length_le (by omega)]; rfl
        have hkI : ¬ ((k : Int) < (nw.length : Int) + (od.length : Int) + 1) := by have := HLN.out; omega
        clear hN hU hsc
        go_wp2
        go_ret
        exact ⟨by rw [HE.out, HSC.out]; rfl, hx⟩
end Go.Proofs.YtkibgflbidkalaaGreatDoor

/- Manifests: Bytes. -/
namespace Go.Proofs.YtkibgflbidkalaaGreatDoor
open Go.RowKit Go.WideShapes

def txtM (l : List UInt8) : ByteArray := ⟨l.toArray⟩
def byt (x : Int) : UInt8 := UInt8.ofNat x.toNat
def encM (ep lg : Int) (nw od : List Int) : List UInt8 := [77, byt (ep % 256), byt (ep / 256 % 256), byt (ep / 65536), byt lg, UInt8.ofNat nw.length, UInt8.ofNat od.length] ++ (nw ++ od).map byt
theorem scan_zero {l seen : List Int} (h : scan seen l = 0) : (∀ x ∈ l, 2 ≤ x ∧ x < 24) ∧ l.Nodup ∧ ∀ x ∈ l, x ∉ seen := by
  induction l generalizing seen with
  | nil => simp
  | cons b r ih =>
    unfold scan at h
    by_cases h1 : b < 2 ∨ 24 ≤ b
    · rw [if_pos h1] at h; omega
    · rw [if_neg h1] at h
      by_cases h2 : b ∈ seen
      · rw [if_pos h2] at h; omega
      · rw [if_neg h2] at h
        obtain ⟨a1, a2, a3⟩ := ih h
        refine ⟨?_, ?_, ?_⟩
        · intro x hx
          rcases List.mem_cons.1 hx with rfl | hx
          · omega
          · exact a1 x hx
        · refine List.nodup_cons.2 ⟨fun hb => a3 b hb (by simp), a2⟩
        · intro x hx
          rcases List.mem_cons.1 hx with rfl | hx
          · exact h2
          · exact fun hs => a3 x hx (by simp [hs])
theorem few_nat : ∀ (n : Nat) (l : List Nat), l.Nodup → (∀ x ∈ l, x < n) → l.length ≤ n
  | 0, l, _, h => by
    cases l with
    | nil => simp
    | cons x r => have := h x (by simp); omega
  | n + 1, l, hn, h => by
    by_cases hm : n ∈ l
    · have h1 := few_nat n (l.erase n) (hn.erase n) (fun x hx => by
        have h2 := h x (List.mem_of_mem_erase hx)
        have h3 : x ≠ n := fun e => by
          subst e
          exact (List.Nodup.mem_erase_iff hn).1 hx |>.1 rfl
        omega)
      rw [List.length_erase_of_mem hm] at h1
      omega
    · have h1 := few_nat n l hn (fun x hx => by
        have h2 := h x hx
        have h3 : x ≠ n := fun e => hm (e ▸ hx)
        omega)
      omega
theorem nodup_le {l : List Int} (hr : ∀ x ∈ l, 2 ≤ x ∧ x < 24) (hn : l.Nodup) : l.length ≤ 24 := by
  have h1 : (l.map Int.toNat).Nodup := by
    unfold List.Nodup
    rw [List.pairwise_map]
    refine List.Pairwise.imp_of_mem ?_ hn
    intro a b ha hb hne e
    have := hr a ha; have := hr b hb; omega
  have := few_nat 24 (l.map Int.toNat) h1 (fun x hx => by
    obtain ⟨y, hy, rfl⟩ := List.mem_map.1 hx
    have := hr y hy; omega)
  simpa using this

structure BL (W0 w : World) (v : Value) (l : List UInt8) : Prop where
  own : w.ownsRow W0.heap.size 5 1 v l.length (Lib.byteCells l)
  ext : Ext W0 w
theorem Tryz.infoB : (Tryz.prog.info? 5).map (fun i => (i.zero, i.size, i.bytes)) = some (some (.int .u8 0), 1, 1) := by kernel_rfl
theorem BL.alloc {W0 w : World} {v : Value} {xs : List UInt8} (h : BL W0 w v xs) (o : Obj) : BL W0 (w.alloc o) v xs := ⟨h.own.alloc o, h.ext.alloc o⟩
theorem BL.more {W0 w w' : World} {v : Value} {xs : List UInt8} (h : BL W0 w v xs) (hx : Ext w w') : BL W0 w' v xs := by
  refine ⟨?_, h.ext.trans hx⟩
  obtain ⟨h1, h2⟩ := h.own
  refine ⟨h1, ?_⟩
  rcases h2 with h2 | ⟨g, cap, cur, a, b, c, d⟩
  · exact .inl h2
  · refine .inr ⟨g, cap, cur, a, b, ?_, d⟩
    rw [hx.below.block g (lt_of_block c)]; exact c
theorem bl_new {W0 w : World} (hx : Ext W0 w) (l : List UInt8) (hl : l.length ≤ 1000) : BL W0 (w.alloc (.cells (Lib.byteCells l).toArray 5)) (.slice (some ⟨w.heap.size, 0, none⟩) l.length l.length) l := by
  refine ⟨⟨by simp [Lib.byteCells], .inr ⟨w.heap.size, l.length, _, rfl, hx.size, heap_alloc_new w _, Nat.le_refl _, by unfold maxLen; omega, by simp [Lib.byteCells], ?_⟩⟩, hx.alloc _⟩
  rw [List.take_of_length_le (by simp [Lib.byteCells])]
theorem wpList_app_byte {w : World} {ops : Array Oper} {rest : List Oper} {o : Oper} {a : Act} {Q : Exit → Act → World → Prop} (hgd : o.guard = none) (s x : Operand)
    (ho : o.op = .call { callee := .builtin .append, args := #[s, x], argTypes := #[118, 118] })
    (W0 : World) (v : Value) (l : List UInt8) (hs : a.eval s = v) (hl : BL W0 w v l) (g : Nat) (y : UInt8) (hx : a.eval x = .slice (some ⟨g, 0, none⟩) 1 1)
    (hb : Blk w g #[.int .u8 (y.toNat : Int)] 5) (hn : l.length ≤ 100000)
    (h : ∀ g' cap' w', BL W0 w' (.slice (some ⟨g', 0, none⟩) (l.length + 1) cap') (l ++ [y]) → w.grownBy w' v.ownBlock → (v.ownBlock = some g' ∨ g' = w.heap.size) → g' < w'.heap.size → wpList Tryz.prog ops Q rest (a.put o.dst (.slice (some ⟨g', 0, none⟩) (l.length + 1) cap')) w') : wpList Tryz.prog ops Q (o :: rest) a w := by
  obtain ⟨i0, hi, hz0, hz1, hz2⟩ := info_parts Tryz.infoB
  refine wpList_plain hgd fun _ hK => ?_
  refine wp_append_lies w s x 118 ho W0.heap.size 5 i0 (.int .u8 0) 1 1 Tryz.underlying118 hi hz0 hz1 hz2 rfl (by decide) v l.length (Lib.byteCells l) hs hl.own ⟨g, 0, none⟩ 1 1 [.int .u8 (y.toNat : Int)] hx rfl ?_ ?_ (by decide) ?_ ?_ hl.ext.size w.heap.size rfl ?_
  · exact news_cells hb
  · intro u hu; simp only [List.mem_cons, List.not_mem_nil, or_false] at hu; subst hu; rfl
  · unfold maxLen; omega
  · omega
  · intro g' cap' w' p q r t
    refine hK _ _ (h g' cap' w' ⟨?_, hl.ext.grown q (own_ge hl.own)⟩ q r t)
    have e : Lib.byteCells (l ++ [y]) = Lib.byteCells l ++ [.int .u8 (y.toNat : Int)] := by simp [Lib.byteCells]
    rw [e, List.length_append]; exact p
theorem BL.conv {W0 w : World} {v : Value} {l : List UInt8} (h : BL W0 w v l) (hne : l ≠ []) : (∃ g cap, v = .slice (some ⟨g, 0, none⟩) l.length cap) ∧ ∀ g cap, v = .slice (some ⟨g, 0, none⟩) l.length cap → (convert 118 9 (.slice (some ⟨g, 0, none⟩) l.length cap)).run Tryz.prog w = .ok (.string (txtM l)) w := by
  obtain ⟨hlen, hcase⟩ := h.own
  rcases hcase with ⟨rfl, h0⟩ | ⟨g, cap, cur, rfl, _, hh, _, _, _, htake⟩
  · exact absurd (List.eq_nil_of_length_eq_zero h0) hne
  · refine ⟨⟨g, cap, rfl⟩, fun g' cap' e => ?_⟩
    simp at e
    obtain ⟨rfl, rfl⟩ := e
    exact run_convert_bytes_back (P := Tryz.prog) w 118 9 5 ⟨g, 0, none⟩ cap l Tryz.underlying118 Tryz.underlying5 Tryz.underlying9 (fun j hj => by
      rw [add_plain, Nat.zero_add]
      have hj2 : (Lib.byteCells l)[j]? = some (.int .u8 (l[j].toNat : Int)) := by simp [Lib.byteCells, hj]
      rw [← htake, List.getElem?_take] at hj2
      split at hj2
      · simp only [World.cell?, hh]; simpa using hj2
      · simp at hj2)
end Go.Proofs.YtkibgflbidkalaaGreatDoor
