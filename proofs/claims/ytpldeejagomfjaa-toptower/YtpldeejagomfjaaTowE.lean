
/- Towers: New, Get, Many, All. -/
import Derived.Test.YtpldeejagomfjaaTowD
import Derived.Test.YtpldeejagomfjaaLstG
import Derived.Test.YtpldeejagomfjaaEntApp
namespace Go.Proofs.Ytpldeejagomfjaa
open Go.RowKit

theorem Try.results53 : Try.f53.results = #[.cell 4 30, .tmp 5] := by kernel_rfl
/-- A tower in memory. -/
structure Tow (w : World) (lb : Nat) (ns : List Nd) : Prop where
  g : TwG lb ns
  m : ∃ L, Chn L lb ns ∧ Mem w lb ns L (ns.length : Int)
theorem Tow.ext {w w' : World} {lb : Nat} {ns : List Nd} (h : Tow w lb ns) (hx : Ext w w') : Tow w' lb ns := by
  obtain ⟨L, h1, h2⟩ := h.m
  exact ⟨h.g, L, h1, h2.ext hx⟩
def listO : Obj := .cells #[.string ⟨#[]⟩, .string ⟨#[]⟩, .bool false, .pointer none, .pointer none, .pointer none, .pointer none, .int .i64 0] 152
theorem tow_new (w : World) : Tow (w.alloc listO) w.heap.size [] := by
  refine ⟨⟨by simp, by simp, Ris.nil⟩, fun _ _ => none, fun f _ => rfl, ⟨?_, by simp⟩⟩
  exact Blk.new w _ _

set_option maxHeartbeats 1000000 in
theorem tnew_any (w : World) : Calls Try.prog 50 #[] w fun e w' => e = .returned (.pointer (some ⟨w.heap.size, 0, none⟩)) ∧ w' = w.alloc listO := by
  go_enter Try.func50, Try.ntmps50
  go_wp2
  go_ret
  exact ⟨rfl, rfl⟩

set_option maxHeartbeats 1000000 in
theorem many_any (lb : Nat) (ns : List Nd) (w : World) (h : Tow w lb ns) : Calls Try.prog 55 #[.pointer (some ⟨lb, 0, none⟩)] w fun e w' => e = .returned (.int .i64 (ns.length : Int)) ∧ w' = w := by
  obtain ⟨L, _, hM⟩ := h.m
  have hc : w.cell? ⟨lb, 7, none⟩ = some (.int .i64 (ns.length : Int)) := hM.head.cell 7
  have hl := hM.head.lt
  clear hM
  go_enter Try.func55, Try.ntmps55
  go_wp2
  go_ret
  exact ⟨rfl, rfl⟩

theorem getE_low {lb : Nat} {ns : List Nd} (g : TwG lb ns) (key : ByteArray) : getE (ns.map Nd.e) key = match hig key ns with
    | n0 :: _ => if n0.e.key = key then some n0.e else none
    | [] => none := by
  have h1 : ns.map Nd.e = (low key ns).map Nd.e ++ (hig key ns).map Nd.e := by rw [← List.map_append, low_hig]
  have hlo : getE ((low key ns).map Nd.e) key = none := getE_none fun e he => by
    obtain ⟨n, hn, rfl⟩ := List.mem_map.1 he; exact (low_lt hn).ne
  rw [h1]
  unfold getE at *
  rw [List.find?_append, hlo, Option.none_or]
  cases hh : hig key ns with
  | nil => rfl
  | cons n0 r =>
    show ((n0.e :: r.map Nd.e).find? _) = _
    rw [List.find?_cons]
    by_cases hk : n0.e.key = key
    · simp [hk]
    · simp only [hk, decide_false, if_false]
      rw [List.find?_eq_none]
      intro e he
      obtain ⟨n, hn, rfl⟩ := List.mem_map.1 he
      have hr : Ris ((hig key ns).map Nd.e) := List.Pairwise.sublist (List.Sublist.map _ (List.dropWhile_suffix _).sublist) g.ris
      rw [hh] at hr
      have h2 := hr.head n.e (List.mem_map.2 ⟨n, hn, rfl⟩)
      have h3 := hig_ge g (k := key) (n := n0) (by rw [hh]; simp)
      simp only [decide_eq_true_eq]
      intro e2
      rw [e2] at h2
      rcases Lt.tri n0.e.key key with h | h | h
      · exact h3 h
      · exact hk h
      · exact h.asymm h2

set_option maxRecDepth 20000 in
set_option maxHeartbeats 2000000 in
theorem get_any (lb : Nat) (ns : List Nd) (key : ByteArray) (w : World) (h : Tow w lb ns) : Calls Try.prog 53 #[.pointer (some ⟨lb, 0, none⟩), .string key] w fun e w' => e = .returned (gotV (getE (ns.map Nd.e) key)) ∧ Ext w w' := by
  obtain ⟨L, hC, hM⟩ := h.m
  have g := h.g
  have HB : Hid (∀ W, Mem W lb ns L (ns.length : Int) → Calls Try.prog 96 #[.pointer (some ⟨lb, 0, none⟩), .string key] W fun e w' => e = .returned (pathV lb ns key) ∧ Ext W w') := fun W h => by
    have := before_any lb ns L _ key W g hC h
    rw [pathV_eq] at this; exact this
  have hx0 : Ext w (w.alloc (.cells #[.string ⟨#[]⟩, .string ⟨#[]⟩, .bool false] 30)) := (Ext.refl w).alloc _
  have HR : Hid (Blk (w.alloc (.cells #[.string ⟨#[]⟩, .string ⟨#[]⟩, .bool false] 30)) w.heap.size #[.string ⟨#[]⟩, .string ⟨#[]⟩, .bool false] 30) := Blk.new _ _ _
  have hix : ∀ W, (Instr.index 148 (pathV lb ns key) (.int .i64 0)).run Try.prog W = .ok (.pointer (some ⟨pr lb ns key 0, 0, none⟩)) W := fun W => path_ix lb ns key 0 (by omega) W
  have HG := getE_low g key
  have hz : (flo 0 (hig key ns)).head? = (hig key ns).head?.map Nd.b := by
    rw [flo_zero fun n hn => (g.hs n (by rw [← low_hig key ns]; exact List.mem_append_right _ hn)).1]; simp
  have mem : ∀ n ∈ hig key ns, n ∈ ns := fun n hn => by rw [← low_hig key ns]; exact List.mem_append_right _ hn
  have HL : Hid (∀ W, Ext w W → W.cell? ⟨pr lb ns key 0, 3, none⟩ = some (ptr ((hig key ns).head?.map Nd.b)) ∧ pr lb ns key 0 < W.heap.size) := fun W hx => by
    obtain ⟨m1, _, m3⟩ := (hM.ext hx).link (pr_mem lb ns key 0) (show 0 < 4 by omega)
    rw [pr_link hC (by omega), hz] at m1
    exact ⟨m1, m3⟩
  have hpr := (hM.link (pr_mem lb ns key 0) (show 0 < 4 by omega)).2.2
  have hpn : ¬ pr lb ns key 0 = w.heap.size := by omega
  cases hh : hig key ns with
  | nil =>
    rw [hh] at HG HL
    dsimp only at HG
    have HG2 : Hid (getE (ns.map Nd.e) key = none) := HG
    clear HG hz mem
    go_enter Try.func53, Try.ntmps53
    go_wp2_with (go_at_call 96; refine (HB.out _ (hM.ext hx0)).mono ?_; rintro e w2 ⟨rfl, hx2⟩; have hl := HL.out w2 (hx0.trans hx2); simp [ptr] at hl; obtain ⟨l1, l2⟩ := hl; have hR2 := HR.out.ext hx2; have r0 : w2.cell? ⟨w.heap.size, 0, none⟩ = some (.string ⟨#[]⟩) := hR2.cell 0; have r1 : w2.cell? ⟨w.heap.size, 1, none⟩ = some (.string ⟨#[]⟩) := hR2.cell 1; have r2 : w2.cell? ⟨w.heap.size, 2, none⟩ = some (.bool false) := hR2.cell 2; have f0 := hR2.free 0; have f1 := hR2.free 1; have f2 := hR2.free 2; have hl2 := hR2.lt)
    rw [HG2.out]
    refine bodyPost_ret (v := .tuple #[.agg #[.string ⟨#[]⟩, .string ⟨#[]⟩, .bool false], .bool false]) (by simp [results, go_sem, r0, r1, r2]) rfl ⟨rfl, ?_⟩
    refine Ext.set (Ext.set (Ext.set (hx0.trans hx2) ?_ _) ?_ _) ?_ _ <;> exact Nat.le_refl _
  | cons n0 r =>
    have hn0 : n0 ∈ ns := mem n0 (by rw [hh]; simp)
    have hnn : ¬ n0.b = w.heap.size := by have := (hM.node n0 hn0).lt; omega
    rw [hh] at HG HL
    dsimp only at HG
    by_cases hk : n0.e.key = key
    · rw [if_pos hk] at HG
      have HG2 : Hid (getE (ns.map Nd.e) key = some n0.e) := HG
      have hbe : (n0.e.key.toList == key.toList) = true := by rw [hk]; simp
      clear HG hz mem hk
      go_enter Try.func53, Try.ntmps53
      go_wp2_with (go_at_call 96; refine (HB.out _ (hM.ext hx0)).mono ?_; rintro e w2 ⟨rfl, hx2⟩; have hl := HL.out w2 (hx0.trans hx2); simp [ptr] at hl; obtain ⟨l1, l2⟩ := hl; have hN := (hM.ext (hx0.trans hx2)).node n0 hn0; have c0 : w2.cell? ⟨n0.b, 0, none⟩ = some (.string n0.e.key) := hN.cell 0; have c1 : w2.cell? ⟨n0.b, 1, none⟩ = some (.string n0.e.val) := hN.cell 1; have c2 : w2.cell? ⟨n0.b, 2, none⟩ = some (.bool n0.e.gone) := hN.cell 2; have hnl := hN.lt; have hne : ¬ n0.b = w.heap.size := hnn; have hR2 := HR.out.ext hx2; have r0 : w2.cell? ⟨w.heap.size, 0, none⟩ = some (.string ⟨#[]⟩) := hR2.cell 0; have r1 : w2.cell? ⟨w.heap.size, 1, none⟩ = some (.string ⟨#[]⟩) := hR2.cell 1; have r2 : w2.cell? ⟨w.heap.size, 2, none⟩ = some (.bool false) := hR2.cell 2; have f0 := hR2.free 0; have f1 := hR2.free 1; have f2 := hR2.free 2; have hl2 := hR2.lt)
      rw [HG2.out]
      refine bodyPost_ret (v := .tuple #[.agg #[.string n0.e.key, .string n0.e.val, .bool n0.e.gone], .bool true]) (by simp [results, go_sem, r0, r1, r2]) rfl ⟨rfl, ?_⟩
      refine Ext.set (Ext.set (Ext.set (hx0.trans hx2) ?_ _) ?_ _) ?_ _ <;> exact Nat.le_refl _
    · rw [if_neg hk] at HG
      have HG2 : Hid (getE (ns.map Nd.e) key = none) := HG
      have hbe : (n0.e.key.toList == key.toList) = false := beq_ne hk
      clear HG hz mem hk
      go_enter Try.func53, Try.ntmps53
      go_wp2_with (go_at_call 96; refine (HB.out _ (hM.ext hx0)).mono ?_; rintro e w2 ⟨rfl, hx2⟩; have hl := HL.out w2 (hx0.trans hx2); simp [ptr] at hl; obtain ⟨l1, l2⟩ := hl; have hN := (hM.ext (hx0.trans hx2)).node n0 hn0; have c0 : w2.cell? ⟨n0.b, 0, none⟩ = some (.string n0.e.key) := hN.cell 0; have c1 : w2.cell? ⟨n0.b, 1, none⟩ = some (.string n0.e.val) := hN.cell 1; have c2 : w2.cell? ⟨n0.b, 2, none⟩ = some (.bool n0.e.gone) := hN.cell 2; have hnl := hN.lt; have hne : ¬ n0.b = w.heap.size := hnn; have hR2 := HR.out.ext hx2; have r0 : w2.cell? ⟨w.heap.size, 0, none⟩ = some (.string ⟨#[]⟩) := hR2.cell 0; have r1 : w2.cell? ⟨w.heap.size, 1, none⟩ = some (.string ⟨#[]⟩) := hR2.cell 1; have r2 : w2.cell? ⟨w.heap.size, 2, none⟩ = some (.bool false) := hR2.cell 2; have f0 := hR2.free 0; have f1 := hR2.free 1; have f2 := hR2.free 2; have hl2 := hR2.lt)
      rw [HG2.out]
      refine bodyPost_ret (v := .tuple #[.agg #[.string ⟨#[]⟩, .string ⟨#[]⟩, .bool false], .bool false]) (by simp [results, go_sem, r0, r1, r2]) rfl ⟨rfl, ?_⟩
      refine Ext.set (Ext.set (Ext.set (hx0.trans hx2) ?_ _) ?_ _) ?_ _ <;> exact Nat.le_refl _

/-- The first of some nodes. -/
def hdP : List Nd → Option Nat
  | [] => none
  | n :: _ => some n.b
theorem hdP_eq (l : List Nd) : (l.map Nd.b).head? = hdP l := by cases l <;> rfl
/-- Behind some nodes of the lowest floor. -/
structure AllG (lb : Nat) (ns done left : List Nd) : Prop where
  eq : ns = done ++ left

set_option maxRecDepth 20000 in
set_option maxHeartbeats 2000000 in
theorem tall_any (lb : Nat) (ns : List Nd) (w : World) (h : Tow w lb ns) (hsm : ns.length ≤ 1000) : Calls Try.prog 56 #[.pointer (some ⟨lb, 0, none⟩)] w fun e w' => ∃ v, e = .returned v ∧ Lst w w' v (ns.map Nd.e) := by
  obtain ⟨L, hC, hM⟩ := h.m
  have g := h.g
  have hLL : LL (fun b => L b 0) lb (ns.map Nd.b) := by
    have := hC 0 (by omega)
    rwa [flo_zero fun n hn => (g.hs n hn).1] at this
  have hc : w.cell? ⟨lb, 7, none⟩ = some (.int .i64 (ns.length : Int)) := hM.head.cell 7
  have hc3 : w.cell? ⟨lb, 3, none⟩ = some (ptr (L lb 0)) := hM.head.cell 3
  have hl := hM.head.lt
  obtain ⟨i0, hi, hz0, hz1, hz2⟩ := info_parts Try.info30
  have hhd := hLL.head
  have hhd' : L lb 0 = hdP ns := by rw [← hdP_eq]; exact hhd
  go_enter Try.func56, Try.ntmps56
  go_wp2_with (at_make; refine wpList_make_own _ rfl _ _ 22 rfl w.heap.size 30 i0 (.agg #[.string ⟨#[]⟩, .string ⟨#[]⟩, .bool false]) 3 Try.underlying22 hi hz0 hz1 _ _ _ ns.length rfl rfl rfl ?b2 ?b3 (Nat.le_refl _) ?_)
  case b2 => rw [hz2]; omega
  case b3 => unfold maxLen; omega
  intro w1 hown hgrow
  have hL1 : Lst w w1 (.slice (some ⟨w.heap.size, 0, none⟩) 0 ns.length) [] := ⟨hown, (Ext.refl w).grown hgrow (by intro k h; cases h)⟩
  have hc4 := hL1.ext.cell hc3
  rw [hhd'] at hc4
  have hl1 : lb < w1.heap.size := by have := hL1.ext.size; omega
  clear hown hgrow hi hz0 hz1 hz2 hc hc3 hhd
  go_wp2_with fail
  go_loopg [3, 4] ns.length (fun gm v p wr => ∃ done left, gm = left.length ∧ AllG lb ns done left ∧ p = ptr (hdP left) ∧ Lst w wr v (done.map Nd.e))
  case atStart => exact ⟨[], ns, rfl, ⟨rfl⟩, rfl, hL1⟩
  case round =>
    clear hL1 hc4
    obtain ⟨done, left, rfl, hA, rfl, hL⟩ := hrel
    have hlen : done.length + left.length = ns.length := by rw [hA.eq]; simp
    cases left with
    | nil =>
      have HE : Hid (ns.map Nd.e = done.map Nd.e) := by unfold Hid; rw [hA.eq]; simp
      rw [show ptr (hdP ([] : List Nd)) = .pointer none from rfl]
      clear hA hM hC hLL
      go_wp2
      go_ret
      exact ⟨_, rfl, by rw [HE.out]; exact hL⟩
    | cons n r =>
      have hn : n ∈ ns := by rw [hA.eq]; simp
      have hN := (hM.ext hL.ext).node n hn
      have c0 : wr.cell? ⟨n.b, 0, none⟩ = some (.string n.e.key) := hN.cell 0
      have c1 : wr.cell? ⟨n.b, 1, none⟩ = some (.string n.e.val) := hN.cell 1
      have c2 : wr.cell? ⟨n.b, 2, none⟩ = some (.bool n.e.gone) := hN.cell 2
      have hnl := hN.lt
      have hlk : L n.b 0 = hdP r := by
        rw [← hdP_eq]
        have h2 := hLL
        rw [hA.eq, List.map_append, List.map_cons, show done.map Nd.b ++ n.b :: r.map Nd.b = (done.map Nd.b ++ [n.b]) ++ r.map Nd.b by simp] at h2
        have h3 := h2.to.head
        rw [lst_app] at h3
        exact h3
      have c3 : w.cell? ⟨n.b, 3, none⟩ = some (ptr (L n.b 0)) := (hM.node n hn).cell 3
      rw [hlk] at c3
      have hA2 : AllG lb ns (done ++ [n]) r := ⟨by rw [hA.eq]; simp⟩
      rw [show ptr (hdP (n :: r)) = .pointer (some ⟨n.b, 0, none⟩) from rfl]
      have HM : Hid (Mem w lb ns L (ns.length : Int)) := hM
      have hdl : (done.map Nd.e).length ≤ 100000 := by simp at hlen ⊢; omega
      clear hA hM hC hLL hN hlen
      go_wp2_with (at_builtin; refine wpList_app_ent rfl _ _ rfl w _ (done.map Nd.e) rfl ?c1 _ n.e.key n.e.val n.e.gone rfl ?c2 ?c3 ?_)
      case c1 => exact hL.alloc _
      case c2 => exact Blk.new' _ _ _ (by simp)
      case c3 => exact hdl
      intro v2 w2 hL2
      have c4 := hL2.ext.cell c3
      have hnl2 : n.b < w2.heap.size := by
        rcases Nat.lt_or_ge n.b w2.heap.size with h' | h'
        · exact h'
        · simp [World.cell?, Array.getElem?_eq_none h'] at c4
      clear hL c0 c1 c2 c3
      go_wp2
      go_roundg r.length
      case measure => simp
      case rel => exact ⟨done ++ [n], r, rfl, hA2, rfl, by simpa using hL2⟩
end Go.Proofs.Ytpldeejagomfjaa
