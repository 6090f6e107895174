
/- Towers: drop. -/
import Derived.Test.YtpldeejagomfjaaTowB
import Derived.LaidEqlPtr
namespace Go.Proofs.Ytpldeejagomfjaa
open Go.RowKit

/-- The nodes without that of a key. -/
def del (key : ByteArray) (ns : List Nd) : List Nd := match hig key ns with
  | n0 :: r => if n0.e.key = key then low key ns ++ r else ns
  | [] => ns
def pathV (lb : Nat) (ns : List Nd) (key : ByteArray) : Value := .agg #[.pointer (some ⟨pr lb ns key 0, 0, none⟩), .pointer (some ⟨pr lb ns key 1, 0, none⟩), .pointer (some ⟨pr lb ns key 2, 0, none⟩), .pointer (some ⟨pr lb ns key 3, 0, none⟩)]
theorem pathV_eq (lb : Nat) (ns : List Nd) (key : ByteArray) : Value.agg (pathC lb ns key 0) = pathV lb ns key := by simp [pathV, pathC, pc, ptr]
theorem path_ix (lb : Nat) (ns : List Nd) (key : ByteArray) (k : Nat) (hk : k < 4) (W : World) : (Instr.index 148 (pathV lb ns key) (.int .i64 (k : Int))).run Try.prog W = .ok (.pointer (some ⟨pr lb ns key k, 0, none⟩)) W := by
  rcases (show k = 0 ∨ k = 1 ∨ k = 2 ∨ k = 3 by omega) with rfl | rfl | rfl | rfl <;> kernel_rfl
theorem pr_mem (lb : Nat) (ns : List Nd) (key : ByteArray) (f : Nat) : pr lb ns key f ∈ lb :: ns.map Nd.b := by
  have : AtG lb ns key f (pr lb ns key f) [] := ⟨_, (List.append_nil _).symm, rfl⟩
  exact this.mem
theorem pr_link {lb : Nat} {ns : List Nd} {key : ByteArray} {f : Nat} {L : Nat → Nat → Option Nat} (hC : Chn L lb ns) (hf : f < 4) : L (pr lb ns key f) f = (flo f (hig key ns)).head? := by
  have : AtG lb ns key f (pr lb ns key f) [] := ⟨_, (List.append_nil _).symm, rfl⟩
  exact this.link hC hf

theorem cell_far (W : World) {a b : Nat} (h : b ≠ a) (i j : Nat) (v : Value) : (W.setCell ⟨a, i, none⟩ v).cell? ⟨b, j, none⟩ = W.cell? ⟨b, j, none⟩ := by
  have := Below.heap_setCell W ⟨a, i, none⟩ v b h
  simp [World.cell?, this]
theorem pr_low (lb : Nat) (ns : List Nd) (key : ByteArray) (f : Nat) : pr lb ns key f ∈ lb :: (low key ns).map Nd.b := by
  rcases List.mem_cons.1 (lst_mem lb (flo f (low key ns))) with h | h
  · rw [pr, h]; simp
  · exact List.mem_cons_of_mem _ (flo_sub.subset h)
theorem Try.nodeInfo : ∃ j : TypeInfo, Try.prog.info? 150 = some j ∧ j.size ≠ 0 := by
  have h : (Try.prog.info? 150).map (fun i => i.size) = some 7 := by kernel_rfl
  obtain ⟨j, hj, hs⟩ := Option.map_eq_some_iff.1 h
  exact ⟨j, hj, by omega⟩
theorem eq_same (W : World) (b : Nat) : (binOp .eql 147 (.pointer (some ⟨b, 0, none⟩)) (.pointer (some ⟨b, 0, none⟩))).run Try.prog W = .ok (.bool true) W := by
  obtain ⟨j, hj, _⟩ := Try.nodeInfo
  exact run_eql_ptr_same W _ Try.underlying147 hj
theorem eq_other (W : World) (a b : Nat) {ca cb : Array Value} {ta tb : TypeId} (ha : Blk W a ca ta) (hb : Blk W b cb tb) (hne : a ≠ b) : (binOp .eql 147 (.pointer (some ⟨a, 0, none⟩)) (.pointer (some ⟨b, 0, none⟩))).run Try.prog W = .ok (.bool false) W := by
  obtain ⟨j, hj, hz⟩ := Try.nodeInfo
  exact run_eql_ptr_other W Try.underlying147 hj hz (fun e => hne (congrArg Addr.block e)) ha.blk hb.blk
theorem eq_nil (W : World) (b : Nat) : (binOp .eql 147 (.pointer none) (.pointer (some ⟨b, 0, none⟩))).run Try.prog W = .ok (.bool false) W := by
  have h : ∀ d : Nat, (Op.equalIn (d + 1) 147 (.pointer none) (.pointer (some ⟨b, 0, none⟩))).run Try.prog W = .ok false W := fun d => by
    simp [Op.equalIn, run_underlying Try.underlying147]
  simp only [binOp]
  simp [Op.equal, Op.maxDepth, h 9999]

set_option maxRecDepth 20000 in
set_option maxHeartbeats 2000000 in
theorem drop_not (lb : Nat) (ns : List Nd) (L : Nat → Nat → Option Nat) (many : Int) (key : ByteArray) (w : World) (hC : Chn L lb ns) (g : TwG lb ns) (hM : Mem w lb ns L many) (hno : ∀ n r, hig key ns = n :: r → n.e.key ≠ key) :
    Calls Try.prog 97 #[.pointer (some ⟨lb, 0, none⟩), pathV lb ns key, .string key] w fun e w' => e = .returned (.tuple #[]) ∧ Ext w w' := by
  obtain ⟨m1, m2, m3⟩ := hM.link (pr_mem lb ns key 0) (show 0 < 4 by omega)
  rw [pr_link hC (by omega)] at m1
  have hz : flo 0 (hig key ns) = (hig key ns).map Nd.b := flo_zero fun n hn => (g.hs n (by rw [← low_hig key ns]; exact List.mem_append_right _ hn)).1
  rw [hz] at m1
  have hbn : ¬ pr lb ns key 0 = w.heap.size := by omega
  have mem : ∀ n ∈ hig key ns, n ∈ ns := fun n hn => by rw [← low_hig key ns]; exact List.mem_append_right _ hn
  unfold pathV
  generalize pr lb ns key 0 = p0 at *
  generalize pr lb ns key 1 = p1 at *
  generalize pr lb ns key 2 = p2 at *
  generalize pr lb ns key 3 = p3 at *
  cases hh : hig key ns with
  | nil =>
    rw [hh] at m1
    simp [ptr] at m1
    clear hC g hM hno hz mem hh
    go_enter Try.func97, Try.ntmps97
    go_wp2
    (try simp only [Exit.inBlock, Exit.then])
    refine bodyPost_ret (results_none rfl _ _ _) rfl ?_
    exact ⟨rfl, (Ext.refl _).alloc _⟩
  | cons n r =>
    have hk := hno n r hh
    rw [hh] at m1
    simp [ptr] at m1
    have hnk := (hM.node n (mem n (by rw [hh]; simp))).cell 0
    simp at hnk
    have hbe : (n.e.key.toList == key.toList) = false := beq_ne hk
    have hnl := (hM.node n (mem n (by rw [hh]; simp))).lt
    have hnn : ¬ n.b = w.heap.size := by omega
    clear hC g hM hno hz mem hh hk
    go_enter Try.func97, Try.ntmps97
    go_wp2
    (try simp only [Exit.inBlock, Exit.then])
    refine bodyPost_ret (results_none rfl _ _ _) rfl ?_
    exact ⟨rfl, (Ext.refl _).alloc _⟩

set_option maxRecDepth 20000 in
set_option maxHeartbeats 4000000 in
theorem drop_yes (lb : Nat) (ns : List Nd) (L : Nat → Nat → Option Nat) (key : ByteArray) (w : World) (hC : Chn L lb ns) (g : TwG lb ns) (hM : Mem w lb ns L (ns.length : Int)) (hsm : ns.length ≤ 1000) (n0 : Nd) (r : List Nd) (hh : hig key ns = n0 :: r) (hk : n0.e.key = key) :
    Calls Try.prog 97 #[.pointer (some ⟨lb, 0, none⟩), pathV lb ns key, .string key] w fun e w' => e = .returned (.tuple #[]) ∧ ∃ M, Chn M lb (low key ns ++ r) ∧ Mem w' lb (low key ns ++ r) M ((low key ns ++ r).length : Int) ∧ Kp w w' (lb :: ns.map Nd.b) := by
  have hns : low key ns ++ n0 :: r = ns := by rw [← hh]; exact low_hig key ns
  obtain ⟨m1, m2, m3⟩ := hM.link (pr_mem lb ns key 0) (show 0 < 4 by omega)
  rw [pr_link hC (by omega)] at m1
  have hn0 : n0 ∈ ns := by rw [← hns]; simp
  have hz : (flo 0 (hig key ns)).head? = some n0.b := by
    rw [hh, flo_cons, if_pos (by have := (g.hs n0 hn0).1; omega)]; rfl
  rw [hz] at m1
  simp [ptr] at m1
  have hbn : ¬ pr lb ns key 0 = w.heap.size := by omega
  have hnk := (hM.node n0 hn0).cell 0
  simp at hnk
  rw [hk] at hnk
  have hnl := (hM.node n0 hn0).lt
  have hnn : ¬ n0.b = w.heap.size := by omega
  have HX : Hid (∀ o, Ext w (w.alloc o)) := fun o => (Ext.refl w).alloc o
  have HP : Hid (∀ (k : Nat) (W : World), k < 4 → (Instr.index 148 (pathV lb ns key) (.int .i64 (k : Int))).run Try.prog W = .ok (.pointer (some ⟨pr lb ns key k, 0, none⟩)) W) := fun k W hk => path_ix lb ns key k hk W
  unfold pathV at *
  have hbe : (key.toList == key.toList) = true := by simp
  go_enter Try.func97, Try.ntmps97
  go_wp2
  have hJ0 : ChnJ L lb (low key ns ++ n0 :: r) (low key ns ++ r) 0 := ChnJ.zero (by rw [hns]; exact hC)
  have hM0 := hM.ext (HX.out (.cells #[.pointer (some ⟨pr lb ns key 0, 0, none⟩), .pointer (some ⟨pr lb ns key 1, 0, none⟩), .pointer (some ⟨pr lb ns key 2, 0, none⟩), .pointer (some ⟨pr lb ns key 3, 0, none⟩)] 148))
  have hK0 : Kp w (w.alloc (.cells #[.pointer (some ⟨pr lb ns key 0, 0, none⟩), .pointer (some ⟨pr lb ns key 1, 0, none⟩), .pointer (some ⟨pr lb ns key 2, 0, none⟩), .pointer (some ⟨pr lb ns key 3, 0, none⟩)] 148)) (lb :: ns.map Nd.b) := Kp.ofExt (HX.out _) _
  go_loopw [7, 8, 27] (fun _ _ i wr => ∃ (k : Nat) (M : Nat → Nat → Option Nat), k ≤ 4 ∧ i = .int .i64 k ∧ Mem wr lb ns M (ns.length : Int) ∧ ChnJ M lb (low key ns ++ n0 :: r) (low key ns ++ r) k ∧ Kp w wr (lb :: ns.map Nd.b)) (fun _ _ i _ => 4 - (intOf i).toNat)
  case atStart => exact ⟨0, L, by omega, rfl, hM0, hJ0, hK0⟩
  case round =>
    clear hM0 hJ0 hK0 m1 m2 hnk hM hC
    obtain ⟨k, M, hk4, rfl, hM, hJ, hK⟩ := hrel
    by_cases hlt : k < 4
    · have hix := fun W => HP.out k W hlt
      have hpm := pr_mem lb ns key k
      obtain ⟨a1, a2, a3⟩ := hM.link hpm hlt
      obtain ⟨b1, b2, b3⟩ := hM.link (a := n0.b) (by rw [← hns]; simp) hlt
      have hnd : (lb :: (low key ns ++ n0 :: r).map Nd.b).Nodup := by rw [hns]; exact g.nodup
      have hk0 : (0 : Int) ≤ (k : Int) := by omega
      have hk5 : (k : Int) < 4 := by omega
      by_cases hht : k < n0.h
      · obtain ⟨y1, y2⟩ := del_yes hnd hJ hlt hht
        have y1' : M (pr lb ns key k) k = some n0.b := y1
        rw [y1'] at a1
        simp [ptr] at a1
        have hM2 := hM.set g.nodup hlt hpm (M n0.b k)
        have hK2 := hK.trans (Kp.set wr (o := 3 + k) hpm (ptr (M n0.b k)))
        have y2' : ChnJ (setL M (pr lb ns key k) k (M n0.b k)) lb (low key ns ++ n0 :: r) (low key ns ++ r) (k + 1) := y2
        have HM2 : Hid (Mem (wr.setCell ⟨pr lb ns key k, 3 + k, none⟩ (ptr (M n0.b k))) lb ns (setL M (pr lb ns key k) k (M n0.b k)) (ns.length : Int)) := hM2
        have he := fun W => eq_same W n0.b
        have hne : n0.b ≠ pr lb ns key k := by
          intro e
          have h5 : (lb :: (low key ns).map Nd.b ++ n0.b :: r.map Nd.b).Nodup := by simpa using hnd
          exact (List.nodup_append.1 h5).2.2 _ (pr_low lb ns key k) n0.b (by simp) e.symm
        generalize M n0.b k = lnk at *
        clear hM hJ hK hM2
        unfold ptr at b1 HM2 hK2
        go_wp2
        go_region_held3 (fun w' => w'.cell? ⟨n0.b, 3 + k, none⟩ = some (.pointer (lnk.map fun b => ⟨b, 0, none⟩))) (first | (go_keep; done) | (show (wr.setCell _ _).cell? _ = _; rw [cell_far _ hne]; exact b1)) (fail)
        go_wp2
        go_roundw
        case rel => exact ⟨k + 1, _, by omega, by go_num, HM2.out.ext (by repeat (first | exact Ext.refl _ | refine Ext.drew ?_ | refine Ext.drewN ?_ _)), y2', hK2.trans (Kp.ofExt (by repeat (first | exact Ext.refl _ | refine Ext.drew ?_ | refine Ext.drewN ?_ _)) _)⟩
        case measure => simp [intOf]; omega
      · obtain ⟨y1, y2, y3⟩ := del_no hnd hJ hlt hht
        have y1' : M (pr lb ns key k) k = (flo k r).head? := y1
        rw [y1'] at a1
        have hfl : ∃ q, flo k r = q := ⟨_, rfl⟩
        obtain ⟨q, hq⟩ := hfl
        rw [hq] at a1 y2
        cases q with
        | nil =>
          simp [ptr] at a1
          have he := fun W => eq_nil W n0.b
          have HM2 : Hid (Mem wr lb ns M (ns.length : Int)) := hM
          clear hM hJ hq
          go_wp2
          go_roundw
          case rel => exact ⟨k + 1, _, by omega, by go_num, HM2.out, y3, hK⟩
          case measure => simp [intOf]; omega
        | cons c q =>
          simp [ptr] at a1
          obtain ⟨m, hm1, hm2, _⟩ := flo_mem (ns := r) (f := k) (c := c) (by rw [hq]; simp)
          have hmn : m ∈ ns := by rw [← hns]; simp [hm1]
          have hcb := hM.node m hmn
          rw [hm2] at hcb
          have he := eq_other wr c n0.b hcb (hM.node n0 hn0) (y2 c (by simp))
          have HM2 : Hid (Mem wr lb ns M (ns.length : Int)) := hM
          clear hM hJ hq hcb
          go_wp2
          go_roundw
          case rel => exact ⟨k + 1, _, by omega, by go_num, HM2.out, y3, hK⟩
          case measure => simp [intOf]; omega
    · obtain rfl : k = 4 := by omega
      have hD := hJ.done
      have hc := hM.head.cell 7
      simp at hc
      have hf := hM.head.free 7
      have hl := hM.head.lt
      have hlen : ((ns.length : Int) - 1) = ((low key ns ++ r).length : Int) := by
        have : ns.length = (low key ns ++ n0 :: r).length := by rw [hns]
        rw [this]; simp; omega
      have HM2 : Hid (Mem (wr.setCell ⟨lb, 7, none⟩ (.int .i64 ((ns.length : Int) - 1))) lb (low key ns ++ r) M ((low key ns ++ r).length : Int)) := by
        have := (hM.many g.nodup ((ns.length : Int) - 1)).sub (ms := low key ns ++ r) (by
          intro n hn
          rw [← hns]
          rcases List.mem_append.1 hn with h | h
          · exact List.mem_append_left _ h
          · exact List.mem_append_right _ (List.mem_cons_of_mem _ h))
        rwa [hlen] at this ⊢
      have hK2 := hK.trans (Kp.set wr (b := lb) (o := 7) (S := lb :: ns.map Nd.b) (by simp) (.int .i64 ((ns.length : Int) - 1)))
      clear hM hJ hK hlen
      go_wp2
      go_end0
      exact ⟨rfl, M, hD, HM2.out, hK2⟩
end Go.Proofs.Ytpldeejagomfjaa
