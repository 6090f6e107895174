
/- Lists of numbers: made, put together, held against each other. -/
import Derived.Test.YtpldeejagomfjaaWld
import Derived.Test.YtpldeejagomfjaaApp
import Derived.Lib.AppendZerosOnto
import Derived.Lib.AppendZeros
import Derived.Lib.SliceRun
import Derived.WalkLawsBesides
import Derived.Deep.QuietTactic
import Derived.BigQuiet
namespace Go.Proofs.Ytpldeejagomfjaa
open Go.RowKit

/-- Numbers in memory. -/
def NumsAt (w : World) (ao : Option Addr) (hs : List Int) : Prop :=
  hs ≠ [] → ∃ b off, ao = some ⟨b, off, none⟩ ∧ ∀ i x, hs[i]? = some x → w.cell? ⟨b, off + i, none⟩ = some (.int .i64 x)
theorem NumsAt.get {w : World} {ao : Option Addr} {hs : List Int} (h : NumsAt w ao hs) {k : Nat} (hk : k < hs.length) : ∃ b off x, ao = some ⟨b, off, none⟩ ∧ hs[k]? = some x ∧ w.cell? ⟨b, off + k, none⟩ = some (.int .i64 x) := by
  obtain ⟨b, off, rfl, hc⟩ := h (by intro e; subst e; simp at hk)
  have he : hs[k]? = some hs[k] := List.getElem?_eq_getElem hk
  exact ⟨b, off, hs[k], rfl, he, hc k _ he⟩
theorem NumsAt.ext {w w' : World} {ao : Option Addr} {hs : List Int} (h : NumsAt w ao hs) (hx : Ext w w') : NumsAt w' ao hs := fun hne => by
  obtain ⟨b, off, e, hc⟩ := h hne
  exact ⟨b, off, e, fun i x hxx => hx.cell (hc i x hxx)⟩
theorem NumsAt.nil (w : World) (ao : Option Addr) : NumsAt w ao [] := fun h => absurd rfl h
def rowI (xs : List Int) : List Value := xs.map (Value.int .i64)
theorem rowI_one (xs : List Int) : ∀ u ∈ rowI xs, u.oneCell' = true := by
  intro u hu; unfold rowI at hu; obtain ⟨t, _, rfl⟩ := List.mem_map.1 hu; rfl
theorem NumsAt.row {w : World} {ao : Option Addr} {xs : List Int} (h : NumsAt w ao xs) : rowI xs ≠ [] → ∃ ad, ao = some ad ∧ ∀ j u, (rowI xs)[j]? = some u → w.cell? (ad.add j) = some u := by
  intro hne
  obtain ⟨b, off, rfl, hc⟩ := h (by intro e; subst e; exact hne rfl)
  refine ⟨_, rfl, fun j u hu => ?_⟩
  have : ((⟨b, off, none⟩ : Addr).add j) = ⟨b, off + j, none⟩ := by unfold Addr.add; by_cases h : j = 0 <;> simp [h]
  rw [this]
  unfold rowI at hu
  rw [List.getElem?_map] at hu
  cases ht : xs[j]? with
  | none => rw [ht] at hu; simp at hu
  | some t => rw [ht] at hu; simp at hu; subst hu; exact hc j t ht
theorem Try.info3 : (Try.prog.info? 3).map (fun i => (i.zero, i.size, i.bytes)) = some (some (.int .i64 0), 1, 8) := by kernel_rfl
/-- A list of numbers that was made behind the world W0. -/
structure IL (W0 w : World) (v : Value) (xs : List Int) : Prop where
  own : w.ownsRow W0.heap.size 3 1 v xs.length (rowI xs)
  ext : Ext W0 w
theorem IL.nil {W0 w : World} (h : Ext W0 w) : IL W0 w (.slice none 0 0) [] := ⟨World.ownsRow_nil _ _ _ _, h⟩
theorem IL.alloc {W0 w : World} {v : Value} {xs : List Int} (h : IL W0 w v xs) (o : Obj) : IL W0 (w.alloc o) v xs := ⟨h.own.alloc o, h.ext.alloc o⟩
theorem IL.at {W0 w : World} {v : Value} {xs : List Int} (h : IL W0 w v xs) : ∃ ao cap, v = .slice ao xs.length cap ∧ NumsAt w ao xs := by
  obtain ⟨hlen, hcase⟩ := h.own
  rcases hcase with ⟨rfl, h0⟩ | ⟨g, cap, cur, rfl, _, hh, _, _, _, htake⟩
  · have : xs = [] := List.eq_nil_of_length_eq_zero h0
    subst this
    exact ⟨none, 0, rfl, NumsAt.nil _ _⟩
  · refine ⟨_, cap, rfl, fun _ => ⟨g, 0, rfl, fun i e he => ?_⟩⟩
    have hj : (rowI xs)[i]? = some (.int .i64 e) := by unfold rowI; rw [List.getElem?_map, he]; rfl
    rw [← htake, List.getElem?_take] at hj
    split at hj
    · simp only [World.cell?, hh, Nat.zero_add]; simpa using hj
    · simp at hj
theorem IL.back {W0 W1 w : World} {v : Value} {es : List Int} (h : IL W1 w v es) (hx : Ext W0 W1) : IL W0 w v es := by
  refine ⟨?_, hx.trans h.ext⟩
  obtain ⟨h1, h2⟩ := h.own
  refine ⟨h1, ?_⟩
  rcases h2 with h2 | ⟨g, cap, cur, a, b, c, d⟩
  · exact .inl h2
  · exact .inr ⟨g, cap, cur, a, Nat.le_trans hx.size b, c, d⟩

theorem wpList_app_nums {w : World} {ops : Array Oper} {rest : List Oper} {o : Oper} {a : Act} {Q : Exit → Act → World → Prop} (hgd : o.guard = none) (s x : Operand)
    (ho : o.op = .call { callee := .builtin .append, args := #[s, x], argTypes := #[74, 74] })
    (W0 : World) (v : Value) (es : List Int) (hs : a.eval s = v) (hl : IL W0 w v es) (ao : Option Addr) (c : Nat) (fs : List Int) (hx : a.eval x = .slice ao fs.length c)
    (hfs : NumsAt w ao fs) (hn : es.length + fs.length ≤ 100000)
    (h : ∀ v' w', IL W0 w' v' (es ++ fs) → wpList Try.prog ops Q rest (a.put o.dst v') w') : wpList Try.prog ops Q (o :: rest) a w := by
  obtain ⟨i0, hi, hz0, hz1, hz2⟩ := info_parts Try.info3
  refine wpList_append_any hgd s x 74 ho W0.heap.size 3 i0 (.int .i64 0) 1 8 Try.underlying74 hi hz0 hz1 hz2 rfl (by decide) v es.length (rowI es) hs hl.own ao fs.length c (rowI fs) hx (by simp [rowI]) hfs.row (rowI_one fs) ?_ ?_ hl.ext.size ?_
  · unfold maxLen; omega
  · omega
  · intro v' w' p q
    refine h v' w' ⟨?_, hl.ext.grown q (own_ge hl.own)⟩
    rw [show rowI (es ++ fs) = rowI es ++ rowI fs by simp [rowI], List.length_append]; exact p
theorem nums_blk {w : World} {b : Nat} {x : Int} {t : TypeId} (h : Blk w b #[.int .i64 x] t) : NumsAt w (some ⟨b, 0, none⟩) [x] := fun _ => by
  refine ⟨b, 0, rfl, fun i y hy => ?_⟩
  cases i with
  | zero => simp at hy; subst hy; rw [Nat.zero_add, h.cell]; rfl
  | succ i => simp at hy

set_option maxRecDepth 20000 in
set_option maxHeartbeats 2000000 in
theorem grow_nil (n : Nat) (w : World) (hn : n ≤ 100000) : Calls Try.prog 105 #[.slice none 0 0, .int .i64 (n : Int)] w fun e w' => ∃ v, e = .returned v ∧ IL w w' v [] := by
  obtain ⟨i0, hi, hz0, hz1, hz2⟩ := info_parts Try.info3
  rcases Nat.eq_zero_or_pos n with rfl | hp
  · go_enter Try.func105, Try.ntmps105
    go_wp2
    go_ret
    exact ⟨_, rfl, IL.nil (Ext.refl _)⟩
  · have h1 : ¬ ((n : Int) < 0) := by omega
    have h4 : (0 : Int) < (n : Int) := by omega
    have hold : (Builtin.firstCells i0.size 0 (.slice none 0 0)).run Try.prog w.drew = .ok ([] : List Value).toArray w.drew := run_firstCells_none w.drew i0.size 0 0 0
    have hrz : ∀ ty, (Builtin.append_ #[74, 3] ty #[.slice none 0 0, .int .i64 (n : Int)]).run Try.prog w = _ := fun ty =>
      Lib.run_append_grow_zeros w 74 3 ty 3 i0 (.int .i64 0) .i64 .i64 Try.underlying74 Try.underlying3 hi hz0 none 0 0 [] hold n hp (by omega) (by omega) (by omega) (by rw [hz2]; omega)
        (by rw [hz2]; simp only [Builtin.nextslicecap]; split <;> omega)
    have hGn : 0 + n ≤ grownCap w (0 + n) 0 3 := grownCap_ge w _ _ _
    have hGl := grownCap_le_maxLen w (0 + n) 0 3 (by unfold maxLen; omega)
    generalize grownCap w (0 + n) 0 3 = G at *
    obtain ⟨C, hC⟩ : ∃ C, C = (([] : List Value).toArray ++ Builtin.zeroCells (Value.int .i64 0).cells n ++ Builtin.zeroCells (Value.int .i64 0).cells (G - (0 + n))) := ⟨_, rfl⟩
    have hCs : C.size = G := by rw [hC]; simp [Builtin.zeroCells, Value.cells]; omega
    rw [← hC] at hrz
    clear hC hold hi hz0 hz1 hz2
    rw [Nat.zero_add] at hrz
    go_enter Try.func105, Try.ntmps105
    go_wp2_with (at_builtin; refine Lib.wpList_append_run _ rfl _ _ _ _ rfl _ _ rfl rfl _ _ (hrz _) ?_)
    go_ret
    refine ⟨_, rfl, ⟨?_, ((Ext.refl w).alloc _).drew⟩⟩
    exact (World.ownsRow_made (base := w.heap.size) (e := 3) (size := 1) w C G (Nat.le_refl _) hGl (by omega)).drew

/-- A list of numbers, and where it lies. -/
structure LI where
  xs : List Int
  ao : Option Addr
  cap : Nat
def ListsI (w : World) (ao : Option Addr) (ls : List LI) : Prop :=
  ls ≠ [] → ∃ b off, ao = some ⟨b, off, none⟩ ∧ ∀ i l, ls[i]? = some l → w.cell? ⟨b, off + i, none⟩ = some (.slice l.ao l.xs.length l.cap) ∧ NumsAt w l.ao l.xs
theorem ListsI.get {w : World} {ao : Option Addr} {ls : List LI} (h : ListsI w ao ls) {k : Nat} (hk : k < ls.length) :
    ∃ b off xs eo ec, ao = some ⟨b, off, none⟩ ∧ ls[k]? = some ⟨xs, eo, ec⟩ ∧ w.cell? ⟨b, off + k, none⟩ = some (.slice eo xs.length ec) ∧ NumsAt w eo xs := by
  obtain ⟨b, off, rfl, hc⟩ := h (by intro e; subst e; simp at hk)
  have he : ls[k]? = some ls[k] := List.getElem?_eq_getElem hk
  exact ⟨b, off, ls[k].xs, ls[k].ao, ls[k].cap, rfl, he, hc k _ he⟩
def cat (ls : List LI) : List Int := ls.flatMap LI.xs
theorem cat_step {ls : List LI} {k : Nat} {l : LI} (h : ls[k]? = some l) : cat (ls.take (k + 1)) = cat (ls.take k) ++ l.xs := by
  rw [List.take_add_one, h]; simp [cat]
theorem cat_le (ls : List LI) (k : Nat) : (cat (ls.take k)).length ≤ (cat ls).length := by
  have h : cat ls = cat (ls.take k) ++ cat (ls.drop k) := by unfold cat; rw [← List.flatMap_append, List.take_append_drop]
  rw [h]; simp

set_option maxRecDepth 20000 in
set_option maxHeartbeats 2000000 in
theorem concat_any (so : Option Addr) (sc : Nat) (ls : List LI) (w : World) (hll : ls.length ≤ 100) (hl : (cat ls).length ≤ 10000) (hA : ListsI w so ls) :
    Calls Try.prog 99 #[.slice so ls.length sc] w fun e w' => ∃ v, e = .returned v ∧ IL w w' v (cat ls) := by
  go_enter Try.func99, Try.ntmps99
  go_wp2
  go_loop [3, 5, 11] (fun z _ i => ∃ k : Nat, k ≤ ls.length ∧ i = .int .i64 k ∧ z = .int .i64 ((cat (ls.take k)).length : Int)) (fun _ _ i => ls.length - (intOf i).toNat)
  case atStart => exact ⟨0, Nat.zero_le _, rfl, rfl⟩
  case round =>
    obtain ⟨k, hk, rfl, rfl⟩ := hrel
    have hcl := cat_le ls k
    by_cases hlt : k < ls.length
    · obtain ⟨b, off, xs, eo, ec, rfl, he, h1, h2⟩ := hA.get hlt
      have hs := cat_step he
      have hcl2 := cat_le ls (k + 1)
      have hlen : (cat (ls.take (k + 1))).length = (cat (ls.take k)).length + xs.length := by rw [hs]; simp
      have HN : Hid (((cat (ls.take (k + 1))).length : Int) = ((cat (ls.take k)).length : Int) + (xs.length : Int)) := by unfold Hid; omega
      have HW : Hid (wrap64 (((cat (ls.take k)).length : Int) + (xs.length : Int)) = ((cat (ls.take k)).length : Int) + (xs.length : Int)) := by unfold Hid wrap64; omega
      have hw := HW.out
      have hpos : ¬ (((cat (ls.take k)).length : Int) + (xs.length : Int) < 0) := by omega
      clear he hA h2 hs hlen
      generalize (cat (ls.take k)).length = z at *
      go_wp2
      go_round
      case rel => exact ⟨k + 1, by omega, by go_num, by rw [HN.out]; exact congrArg (Value.int .i64) HW.out⟩
      case measure => simp [intOf]; omega
    · have hkn : ls.take k = ls := List.take_of_length_le (by omega)
      rw [hkn]
      have CG : Hid (Calls Try.prog 105 #[.slice none 0 0, .int .i64 ((cat ls).length : Int)] w fun e w' => ∃ v, e = .returned v ∧ IL w w' v []) := grow_nil (cat ls).length w (by omega)
      clear hkn hcl
      go_wp2_with (go_at_call 105; refine CG.out.mono ?_; rintro e w1 ⟨v1, rfl, hI⟩)
      go_loopw [6, 8, 27] (fun v _ i wr => ∃ k : Nat, k ≤ ls.length ∧ i = .int .i64 k ∧ IL w wr v (cat (ls.take k))) (fun _ _ i _ => ls.length - (intOf i).toNat)
      case atStart => exact ⟨0, Nat.zero_le _, rfl, hI⟩
      case round =>
        clear hI
        obtain ⟨k, hk, rfl, hI⟩ := hrel
        by_cases hlt : k < ls.length
        · obtain ⟨b, off, xs, eo, ec, rfl, he, h1, h2⟩ := hA.get hlt
          have HS : Hid (cat (ls.take (k + 1)) = cat (ls.take k) ++ xs) := cat_step he
          have hcl2 := cat_le ls (k + 1)
          have hlen : (cat (ls.take k)).length + xs.length ≤ 10000 := by rw [HS.out] at hcl2; simp at hcl2; omega
          have c1 := hI.ext.cell h1
          have c2 := h2.ext hI.ext
          clear he hA h1 h2 hcl2
          generalize cat (ls.take k) = z at *
          go_wp2_with (at_builtin; refine wpList_app_nums rfl _ _ rfl w _ z rfl hI eo ec xs rfl ?c1 ?c2 ?_)
          case c1 => exact c2
          case c2 => omega
          intro v2 w2 hI2
          clear hI c1 c2
          go_wp2
          go_roundw
          case rel => exact ⟨k + 1, by omega, by go_num, by rw [HS.out]; exact hI2⟩
          case measure => simp [intOf]; omega
        · have HE : Hid (cat ls = cat (ls.take k)) := by unfold Hid; rw [List.take_of_length_le (by omega)]
          clear hA
          go_wp2
          go_ret
          exact ⟨_, rfl, by rw [HE.out]; exact hI⟩

/-- The same numbers. -/
theorem sameNums_any (ao bo : Option Addr) (ca cb : Nat) (xs : List Int) (w : World) (hl : xs.length ≤ 9223372036854775807) (ha : NumsAt w ao xs) (hb : NumsAt w bo xs) :
    Calls Try.prog 101 #[.slice ao xs.length ca, .slice bo xs.length cb] w fun e w' => e = .returned (.bool true) ∧ ∃ q, w' = w.drewN q := by
  go_enter Try.func101, Try.ntmps101
  go_wp2
  go_loopw [5] (fun i w' => ∃ k q : Nat, k ≤ xs.length ∧ i = .int .i64 k ∧ w' = w.drewN q) (fun i _ => xs.length - (intOf i).toNat)
  case atStart => exact ⟨0, 0, Nat.zero_le _, rfl, rfl⟩
  case round =>
    obtain ⟨k, q, hk, rfl, rfl⟩ := hrel
    by_cases hlt : k < xs.length
    · obtain ⟨b, off, x, rfl, he, h1⟩ := ha.get hlt
      obtain ⟨b', off', y, rfl, he', g1⟩ := hb.get hlt
      obtain rfl : x = y := by rw [he] at he'; simpa using he'
      clear he he' ha hb
      go_wp2
      go_quiet (fail)
      go_wp2
      go_roundw
      case rel => exact ⟨k + 1, _, by omega, by go_num, rfl⟩
      case measure => simp [intOf]; omega
    · clear ha hb
      go_wp2
      go_ret
      exact ⟨rfl, _, rfl⟩
end Go.Proofs.Ytpldeejagomfjaa
