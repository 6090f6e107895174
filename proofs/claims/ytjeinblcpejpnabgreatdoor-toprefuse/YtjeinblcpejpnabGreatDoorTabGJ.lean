/- TabG. -/
import Derived.RangeFuncNested
import Derived.RangeFuncBound
import Derived.RangeFuncCalls
import Derived.RangeFuncLeaves
import Derived.Shelf.Abstract
import Derived.Shelf.RegionOpen
import Derived.OwnWalkIn
import Derived.TacticsInMore
import Derived.LoopNIn
import Derived.LoopIn
import Derived.Test.YtjeinblcpejpnabGreatDoorTabFJ

/- Tables: entries, some at a time: slices.Chunk. -/
namespace Go.Proofs.YtjeinblcpejpnabGreatDoor
open Go.RowKit Go.WideShapes Go.Shelf
attribute [local go_sem] Oper.semAt_some

/-- The k-th part of a list, n at a time; how long it is; how many parts there are. -/
def partE (n : Nat) (es : List Ent) (k : Nat) : List Ent := (es.drop (k * n)).take n
def partL (n len k : Nat) : Nat := min n (len - k * n)
def partsN (n len : Nat) : Nat := (len + n - 1) / n
def partV (ao : Option Addr) (n len k : Nat) : Value := sliced ao (k * n) (k * n + partL n len k) (k * n + partL n len k) 3
theorem partE_len (n : Nat) (es : List Ent) (k : Nat) : (partE n es k).length = partL n es.length k := by simp [partE, partL]
theorem partV_at {w : World} {ao : Option Addr} {es : List Ent} (h : EntsAt w ao es) (n k : Nat) : ∃ ad, partV ao n es.length k = .slice ad (partE n es k).length (partE n es k).length ∧ EntsAt w ad (partE n es k) := by
  refine ⟨_, by rw [partE_len]; unfold partV sliced; rw [Nat.add_sub_cancel_left], fun hne => ?_⟩
  have hl : (partE n es k).length ≠ 0 := fun e => hne (List.eq_nil_of_length_eq_zero e)
  rw [partE_len] at hl
  obtain ⟨b, off, rfl, hh⟩ := h (by intro e; subst e; simp [partL] at hl)
  refine ⟨b, off + k * n * 3, ?_, fun i e he => ?_⟩
  · rw [if_neg (by omega)]
    simp only [Option.map_some, Addr.add]
    split
    · rename_i h0; rw [h0]; simp
    · rfl
  · have hi : es[k * n + i]? = some e := by
      unfold partE at he
      rw [List.getElem?_take] at he
      split at he
      · rw [List.getElem?_drop] at he; exact he
      · cases he
    have := hh (k * n + i) e hi
    rw [show off + (k * n + i) * 3 = off + k * n * 3 + i * 3 by omega] at this
    exact this
theorem range_succ' (k : Nat) : List.range (k + 1) = List.range k ++ [k] := List.range_succ
/-- The iterator's own boxes are as they were. -/
structure KeepB (sb nb : Nat) (W W' : World) : Prop where
  s : ∀ v t, Blk W sb #[v] t → Blk W' sb #[v] t
  n : ∀ v t, Blk W nb #[v] t → Blk W' nb #[v] t
theorem KeepB.refl (sb nb : Nat) (W : World) : KeepB sb nb W W := ⟨fun _ _ h => h, fun _ _ h => h⟩
theorem KeepB.trans {sb nb : Nat} {A B C : World} (h : KeepB sb nb A B) (k : KeepB sb nb B C) : KeepB sb nb A C := ⟨fun v t x => k.s v t (h.s v t x), fun v t x => k.n v t (h.n v t x)⟩
theorem Blk.putObj {W : World} {b l : Nat} {cs : Array Value} {t : TypeId} {o : Obj} (o' : Obj) (h : Blk W b cs t) (hl : W.heap[l]? = some o) (hc : o.isCells = false) : Blk (W.putObj l o') b cs t := by
  constructor
  rw [World.putObj_heap_other (fun e => by subst e; rw [h.blk] at hl; cases hl; cases hc)]
  exact h.blk
theorem KeepB.put {sb nb : Nat} {W : World} {l : Nat} {o : Obj} (o' : Obj) (hl : W.heap[l]? = some o) (hc : o.isCells = false) : KeepB sb nb W (W.putObj l o') := ⟨fun _ _ h => h.putObj o' hl hc, fun _ _ h => h.putObj o' hl hc⟩
theorem run_from (W : World) (ao : Option Addr) (len cap i : Nat) (hi : i ≤ len) : (Instr.slice 37 (.slice ao len cap) (some (.int .i64 (i : Int))) none none).run Tryz.prog W = .ok (.slice (if cap = i then ao else ao.map (·.add (i * 3))) (len - i) (cap - i)) W := by
  have hu : Tryz.prog.underlying 37 = some (.slice (Tryz.prog.elem 37)) := by kernel_rfl
  have hz : (sizeOf (Tryz.prog.elem 37)).run Tryz.prog W = .ok 3 W := by kernel_rfl
  rw [run_slice_l W 37 ao len cap hu .i64 (i : Int) (by omega) (by omega), hz]
  simp only [Result.andThen, sliced, Int.toNat_natCast]
theorem run_part (W : World) (ao : Option Addr) (len cap i p : Nat) (hi : i + p ≤ cap) : (Instr.slice 37 (.slice ao len cap) (some (.int .i64 (i : Int))) (some (.int .i64 ((i : Int) + (p : Int)))) (some (.int .i64 ((i : Int) + (p : Int))))).run Tryz.prog W = .ok (sliced ao i (i + p) (i + p) 3) W := by
  have hu : Tryz.prog.underlying 37 = some (.slice (Tryz.prog.elem 37)) := by kernel_rfl
  have hz : (sizeOf (Tryz.prog.elem 37)).run Tryz.prog W = .ok 3 W := by kernel_rfl
  have e : (i : Int) + (p : Int) = ((i + p : Nat) : Int) := by omega
  rw [e, run_slice_lhm W 37 ao len cap hu .i64 .i64 .i64 (i : Int) ((i + p : Nat) : Int) ((i + p : Nat) : Int) (by omega) (by omega) (by omega) (by omega), hz]
  simp only [Result.andThen, Int.toNat_natCast]
theorem grown_drewN' (w : World) (n : Nat) (row : Option Nat) : w.grownBy (w.drewN n) row := ⟨rfl, rfl, rfl, Nat.le_refl _, fun _ _ _ => rfl⟩
theorem parts_lt {n len k : Nat} (hn : 1 ≤ n) (h : k * n < len) : k < partsN n len := by
  unfold partsN
  rw [Nat.lt_div_iff_mul_lt (by omega)]
  omega
theorem parts_eq {n len k : Nat} (hn : 1 ≤ n) (h : len ≤ k * n) (h2 : k ≤ partsN n len) : k = partsN n len := by
  refine Nat.le_antisymm h2 ?_
  unfold partsN
  rw [Nat.div_le_iff_le_mul_add_pred (by omega), Nat.mul_comm]
  omega
set_option maxRecDepth 100000 in
set_option maxHeartbeats 2000000 in
theorem chunk1_in (m l sb nb n cap : Nat) (ao : Option Addr) (es : List Ent) (hn : 1 ≤ n) (hn' : n ≤ 100) (hl : es.length ≤ 1000) (hcap : es.length ≤ cap) (J Jx : List Nat → World → Prop)
    (hJd : ∀ pre W q, J pre W → J pre (W.drewN q))
    (hY : ∀ pre x W, J pre W → pre.length < partsN n es.length → x < partsN n es.length → YieldAt Fence.wide (m - 1) Tryz.prog l #[partV ao n es.length x] W fun e W' =>
      (e = .returned (.bool true) ∧ J (pre ++ [x]) W' ∧ KeepB sb nb W W') ∨ (e = .returned (.bool false) ∧ Jx (pre ++ [x]) W'))
    (W : World) (hs : Blk W sb #[.slice ao es.length cap] 37) (hb : Blk W nb #[.int .i64 (n : Int)] 3) (h0 : J [] W) :
    CallsIn Fence.wide m Tryz.prog 107 #[.func (.yield l) #[] #[], .pointer (some ⟨sb, 0, none⟩), .pointer (some ⟨nb, 0, none⟩)] W fun e W' => (∃ v, e = .returned v) ∧
      ((∃ ys, ys = List.range (partsN n es.length) ∧ J ys W') ∨ (∃ pre, (∃ k, k < partsN n es.length ∧ pre = List.range (k + 1)) ∧ Jx pre W')) := by
  generalize hlen : es.length = len at *
  refine callsIn_of_wp Tryz.func107 rfl trivial ?_ rfl
  simp only [Tryz.ntmps107, List.size_toArray, List.length_cons, List.length_nil, Nat.reduceAdd, Nat.reduceSub, Array.replicate_succ, Array.replicate_zero, List.push_toArray, List.append_toArray, List.nil_append, List.cons_append]
  gi_wp2
  gi_loopw [4] (fun i wr => ∃ k : Nat, k ≤ partsN n len ∧ i = .int .i64 ((k * n : Nat) : Int) ∧ J (List.range k) wr ∧ KeepB sb nb W wr)
    (fun i _ => len + n - (intOf i).toNat)
  case atStart => exact ⟨0, Nat.zero_le _, by simp, h0, KeepB.refl _ _ _⟩
  case round =>
    obtain ⟨k, hk, rfl, hJs, hkb⟩ := hrel
    have c1 : wr.cell? ⟨sb, 0, none⟩ = some (.slice ao len cap) := (hkb.s _ _ hs).cell 0
    have c2 : wr.cell? ⟨nb, 0, none⟩ = some (.int .i64 (n : Int)) := (hkb.n _ _ hb).cell 0
    by_cases hlt : k * n < len
    · obtain ⟨i, hi⟩ : ∃ i, i = k * n := ⟨_, rfl⟩
      rw [← hi] at hlt ⊢
      have HI : Hid (i = k * n) := hi
      obtain ⟨a1, cc1, r1⟩ : ∃ a1 cc1, ∀ W, (Instr.slice 37 (.slice ao len cap) (some (.int .i64 (i : Int))) none none).run Tryz.prog W = .ok (.slice a1 (len - i) cc1) W := ⟨_, _, fun W => run_from W ao len cap i (by omega)⟩
      obtain ⟨p, hp⟩ : ∃ p, p = partL n len k := ⟨_, rfl⟩
      have hp0 : p = min n (len - i) := by rw [hp, hi]; rfl
      have hp1 : min (n : Int) ((len - i : Nat) : Int) = (p : Int) := by omega
      have r2 := fun W => run_part W ao len cap i p (by omega)
      have hv : sliced ao i (i + p) (i + p) 3 = partV ao n len k := by rw [hi, hp]; rfl
      rw [hv] at r2
      have HY := fun q => hY (List.range k) k (wr.drewN q) (hJd _ _ q hJs) (by rw [List.length_range]; exact parts_lt hn (by omega)) (parts_lt hn (by omega))
      have HK : Hid (k * n < len) := by unfold Hid; omega
      have hip : (i : Int) + (n : Int) < 2000 := by omega
      clear hp hp0 hv hi hY hJs
      generalize partV ao n len k = pv at *
      gi_wp2
      rw [wpIn_wide]
      go_quiet (fail)
      obtain ⟨fn, tmps, assign, body, hy, hR⟩ := HY nq
      gi_wp2
      refine ⟨fun h => by simp [Fence.wide] at h, hR.mono ?_⟩
      rintro e W3 (⟨rfl, hJ3, hk3⟩ | ⟨rfl, hJx3⟩)
      · have c3 : W3.cell? ⟨nb, 0, none⟩ = some (.int .i64 (n : Int)) := (hk3.n _ _ ((hkb.n _ _ hb).drewN nq)).cell 0
        have HJ3 : Hid (J (List.range k ++ [k]) W3) := hJ3
        clear hJ3
        gi_wp2
        go_roundw
        case rel => exact ⟨k + 1, parts_lt hn HK.out, by rw [Nat.succ_mul, ← HI.out]; go_num, by rw [List.range_succ]; exact HJ3.out, (hkb.trans ⟨fun _ _ h => h.drewN nq, fun _ _ h => h.drewN nq⟩).trans hk3⟩
        case measure => simp [intOf]; omega
      · gi_wp2
        refine bodyPost_ret (results_none rfl _ _ _) rfl ?_
        exact ⟨⟨_, rfl⟩, .inr ⟨_, ⟨k, parts_lt hn HK.out, List.range_succ.symm⟩, hJx3⟩⟩
    · have hk2 : k = partsN n len := parts_eq hn (by omega) hk
      obtain ⟨i, hi⟩ : ∃ i, i = k * n := ⟨_, rfl⟩
      rw [← hi] at hlt ⊢
      clear hi
      gi_wp2
      go_end0
      exact ⟨⟨_, rfl⟩, .inl ⟨_, by rw [hk2], hJs⟩⟩
theorem chunk_stops (m sb nb n cap : Nat) (ao : Option Addr) (es : List Ent) (hn : 1 ≤ n) (hn' : n ≤ 100) (hl : es.length ≤ 1000) (hcap : es.length ≤ cap) (w : World)
    (hs : Blk w sb #[.slice ao es.length cap] 37) (hb : Blk w nb #[.int .i64 (n : Int)] 3) :
    SeqStopsK Fence.wide m Tryz.prog 107 #[.pointer (some ⟨sb, 0, none⟩), .pointer (some ⟨nb, 0, none⟩)] (fun x : Nat => #[partV ao n es.length x]) (KeepB sb nb)
      (fun ys => ys = List.range (partsN n es.length)) (fun pre => ∃ k, k < partsN n es.length ∧ pre = List.range (k + 1)) (partsN n es.length) w := fun l J Jx W hW hA _ hY h0 => by
  have hx : Ext w W := ⟨hW⟩
  exact (chunk1_in m l sb nb n cap ao es hn hn' hl hcap J Jx (fun pre W q h => hA pre W _ none h (grown_drewN' _ _ _) (fun r e => by cases e)) (fun pre x W hJ hl _ => hY pre x W hJ hl) W (Blk.ext hx hs) (Blk.ext hx hb) h0).mono
    fun e W' ⟨he, h⟩ => ⟨he, h⟩
/-- The x-th part, or the last one. -/
def clipN (N x : Nat) : Nat := min x (N - 1)
theorem clip_lt {N x : Nat} (h : 0 < N) : clipN N x < N := by unfold clipN; omega
theorem clip_of {N x : Nat} (h : x < N) : clipN N x = x := by unfold clipN; omega
theorem chunk_stopsC (m sb nb n cap : Nat) (ao : Option Addr) (es : List Ent) (hn : 1 ≤ n) (hn' : n ≤ 100) (hl : es.length ≤ 1000) (hcap : es.length ≤ cap) (w : World)
    (hs : Blk w sb #[.slice ao es.length cap] 37) (hb : Blk w nb #[.int .i64 (n : Int)] 3) :
    SeqStopsK Fence.wide m Tryz.prog 107 #[.pointer (some ⟨sb, 0, none⟩), .pointer (some ⟨nb, 0, none⟩)] (fun x : Nat => #[partV ao n es.length (clipN (partsN n es.length) x)]) (KeepB sb nb)
      (fun ys => ys = List.range (partsN n es.length)) (fun pre => ∃ k, k < partsN n es.length ∧ pre = List.range (k + 1)) (partsN n es.length) w := fun l J Jx W hW hA _ hY h0 => by
  have hx : Ext w W := ⟨hW⟩
  refine (chunk1_in m l sb nb n cap ao es hn hn' hl hcap J Jx (fun pre W q h => hA pre W _ none h (grown_drewN' _ _ _) (fun r e => by cases e)) (fun pre x W hJ hl hx => ?_) W (Blk.ext hx hs) (Blk.ext hx hb) h0).mono
    fun e W' ⟨he, h⟩ => ⟨he, h⟩
  have := hY pre x W hJ hl
  dsimp only at this
  rw [clip_of hx] at this
  exact this
set_option maxRecDepth 20000 in
set_option maxHeartbeats 1000000 in
theorem chunk_any (ao : Option Addr) (len cap n : Nat) (w : World) (hn : 1 ≤ n) (hn' : n ≤ 100) :
    Calls Tryz.prog 83 #[.slice ao len cap, .int .i64 (n : Int)] w fun e w' => e = .returned (.func (.func 107) #[] #[.pointer (some ⟨w.heap.size, 0, none⟩), .pointer (some ⟨w.heap.size + 1, 0, none⟩)]) ∧
      w' = (w.alloc (.cells #[.slice ao len cap] 37)).alloc (.cells #[.int .i64 (n : Int)] 3) := by
  have hn1 : 1 ≤ (n : Int) := by omega
  go_enter Tryz.func83, Tryz.ntmps83
  go_wp2
  go_ret
  exact ⟨rfl, rfl⟩
end Go.Proofs.YtjeinblcpejpnabGreatDoor
