
/- Towers: Put. -/
import Derived.Test.YtpldeejagomfjaaTowC
namespace Go.Proofs.Ytpldeejagomfjaa
open Go.RowKit

theorem putE_pre' (p r : List Ent) (e : Ent) (h : ∀ x ∈ p, Lt x.key e.key) : putE (p ++ r) e = p ++ putE r e := by
  induction p with
  | nil => rfl
  | cons x p ih =>
    show putE (x :: (p ++ r)) e = _
    rw [putE, if_pos (h x (by simp)), ih (fun y hy => h y (by simp [hy]))]; rfl
/-- What is left above a key when its node is dropped. -/
def abv (key : ByteArray) (ns : List Nd) : List Nd := match hig key ns with
  | n0 :: r => if n0.e.key = key then r else n0 :: r
  | [] => []
theorem put_split' {lb : Nat} {ns : List Nd} (g : TwG lb ns) (e : Ent) : putE (ns.map Nd.e) e = (low e.key ns).map Nd.e ++ e :: (abv e.key ns).map Nd.e := by
  have h1 : ns.map Nd.e = (low e.key ns).map Nd.e ++ (hig e.key ns).map Nd.e := by rw [← List.map_append, low_hig]
  rw [h1, putE_pre' _ _ _ (fun x hx => by obtain ⟨n, hn, rfl⟩ := List.mem_map.1 hx; exact low_lt hn)]
  congr 1
  unfold abv
  cases hh : hig e.key ns with
  | nil => rfl
  | cons n0 r =>
    have hge := hig_ge g (k := e.key) (n := n0) (by rw [hh]; simp)
    show putE (n0.e :: r.map Nd.e) e = _
    rw [putE, if_neg hge]
    by_cases hk : n0.e.key = e.key
    · rw [if_pos hk]; simp [hk]
    · rw [if_neg hk]; simp [hk]
theorem abv_sub (key : ByteArray) (ns : List Nd) : (low key ns ++ abv key ns).Sublist ns := by
  have h1 : (abv key ns).Sublist (hig key ns) := by
    unfold abv
    cases hig key ns with
    | nil => simp
    | cons n0 r => dsimp only; split <;> simp
  have h2 : (low key ns ++ abv key ns).Sublist (low key ns ++ hig key ns) := List.Sublist.append_left h1 _
  rwa [low_hig] at h2
/-- Behind drop. -/
theorem drop_any (lb : Nat) (ns : List Nd) (L : Nat → Nat → Option Nat) (key : ByteArray) (w : World) (hC : Chn L lb ns) (g : TwG lb ns) (hM : Mem w lb ns L (ns.length : Int)) (hsm : ns.length ≤ 1000) :
    Calls Try.prog 97 #[.pointer (some ⟨lb, 0, none⟩), pathV lb ns key, .string key] w fun e w' => e = .returned (.tuple #[]) ∧ ∃ M, Chn M lb (low key ns ++ abv key ns) ∧ Mem w' lb (low key ns ++ abv key ns) M ((low key ns ++ abv key ns).length : Int) ∧ Kp w w' (lb :: ns.map Nd.b) := by
  have not : (∀ n r, hig key ns = n :: r → n.e.key ≠ key) → low key ns ++ abv key ns = ns := fun h => by
    rw [show abv key ns = hig key ns by
      unfold abv
      cases hh : hig key ns with
      | nil => rfl
      | cons n0 r => simp [h n0 r hh], low_hig]
  by_cases hno : ∀ n r, hig key ns = n :: r → n.e.key ≠ key
  · rw [not hno]
    refine (drop_not lb ns L _ key w hC g hM hno).mono ?_
    rintro e w' ⟨rfl, hx⟩
    exact ⟨rfl, L, hC, hM.ext hx, Kp.ofExt hx _⟩
  · cases hh : hig key ns with
    | nil => exact absurd (fun n r h => by rw [hh] at h; cases h) hno
    | cons n0 r =>
      have hk : n0.e.key = key := by
        by_cases hk : n0.e.key = key
        · exact hk
        · exact absurd (fun n r' h => by rw [hh] at h; simp at h; rw [← h.1]; exact hk) hno
      have e : abv key ns = r := by unfold abv; rw [hh]; simp [hk]
      rw [e]
      exact drop_yes lb ns L key w hC g hM hsm n0 r hh hk

/-- How high a tower becomes. -/
def hgt (high : Int) : Nat := (min (max high 1) 4).toNat
theorem hgt_le (high : Int) : 1 ≤ hgt high ∧ hgt high ≤ 4 := by unfold hgt; omega
theorem Chn.fresh {L : Nat → Nat → Option Nat} {lb : Nat} {ns : List Nd} (h : Chn L lb ns) {nb : Nat} (hn : nb ∉ lb :: ns.map Nd.b) : Chn (fun b g => if b = nb then none else L b g) lb ns := fun f hf =>
  (h f hf).congr fun c hc => by
    have : c ≠ nb := fun e => hn (by
      rw [← e]
      rcases List.mem_cons.1 hc with h | h
      · rw [h]; simp
      · exact List.mem_cons_of_mem _ (flo_sub.subset h))
    simp [this]

theorem Kp.setNew {w wr : World} {S : List Nat} (h : Kp w wr S) {b : Nat} (hb : w.heap.size ≤ b) (o : Nat) (v : Value) : Kp w (wr.setCell ⟨b, o, none⟩ v) S :=
  ⟨h.os, h.tape, h.output, by simpa using h.size, fun k hk hn => (Below.heap_setCell wr ⟨b, o, none⟩ v k (by show k ≠ b; omega)).trans (h.blk k hk hn)⟩
/-- An entry has been put. -/
structure PutP (w w' : World) (lb : Nat) (ns : List Nd) (e : Ent) : Prop where
  ex : ∃ ms M, TwG lb ms ∧ Chn M lb ms ∧ Mem w' lb ms M (ms.length : Int) ∧ ms.map Nd.e = putE (ns.map Nd.e) e ∧ Kp w w' (lb :: ns.map Nd.b) ∧ ∀ n ∈ ms, n.b ∈ ns.map Nd.b ∨ w.heap.size ≤ n.b
def newN (w4 : World) (key val : ByteArray) (gone : Bool) (high : Int) : Nd := ⟨w4.heap.size, ⟨key, val, gone⟩, hgt high⟩
def nodeO (key val : ByteArray) (gone : Bool) : Obj := .cells #[.string key, .string val, .bool gone, .pointer none, .pointer none, .pointer none, .pointer none] 150
/-- Ahead of the floors. -/
theorem put_setup {lb : Nat} {lo hi : List Nd} {M : Nat → Nat → Option Nat} {w4 : World} {key val : ByteArray} {gone : Bool} {high : Int} (hg : TwG lb (lo ++ hi)) (hC : Chn M lb (lo ++ hi)) (hM : Mem w4 lb (lo ++ hi) M ((lo ++ hi).length : Int)) :
    (lb :: (lo ++ newN w4 key val gone high :: hi).map Nd.b).Nodup ∧ Mem (w4.alloc (nodeO key val gone)) lb (lo ++ newN w4 key val gone high :: hi) (fun b g => if b = w4.heap.size then none else M b g) ((lo ++ hi).length : Int) ∧
      ChnJ (fun b g => if b = w4.heap.size then none else M b g) lb (lo ++ hi) (lo ++ newN w4 key val gone high :: hi) 0 := by
  have hlt : ∀ x ∈ lb :: (lo ++ hi).map Nd.b, x < w4.heap.size := by
    intro x hx
    rcases List.mem_cons.1 hx with rfl | hx
    · exact hM.head.lt
    · obtain ⟨n, hn, rfl⟩ := List.mem_map.1 hx; exact (hM.node n hn).lt
  have hfr : w4.heap.size ∉ lb :: (lo ++ hi).map Nd.b := fun h => by have := hlt _ h; omega
  refine ⟨?_, ?_, ChnJ.zero (hC.fresh hfr)⟩
  · have h1 : ((lb :: (lo ++ newN w4 key val gone high :: hi).map Nd.b)).Perm (w4.heap.size :: lb :: (lo ++ hi).map Nd.b) := by
      rw [List.map_append, List.map_cons, List.map_append]
      exact ((List.perm_middle (a := w4.heap.size) (l₁ := lo.map Nd.b) (l₂ := hi.map Nd.b)).cons lb).trans (List.Perm.swap _ _ _)
    exact h1.nodup_iff.2 (List.nodup_cons.2 ⟨hfr, hg.nodup⟩)
  · have hlb : lb ≠ w4.heap.size := by have := hlt lb (by simp); omega
    refine ⟨by simpa [hlb] using hM.head.alloc (nodeO key val gone), fun n hn => ?_⟩
    have : n = newN w4 key val gone high ∨ n ∈ lo ++ hi := by
      rcases List.mem_append.1 hn with h | h
      · exact .inr (List.mem_append_left _ h)
      · rcases List.mem_cons.1 h with h | h
        · exact .inl h
        · exact .inr (List.mem_append_right _ h)
    rcases this with rfl | h
    · simpa [newN, ptr, nodeO] using Blk.new w4 #[.string key, .string val, .bool gone, .pointer none, .pointer none, .pointer none, .pointer none] 150
    · have hnb : n.b ≠ w4.heap.size := by have := hlt n.b (List.mem_cons_of_mem _ (List.mem_map.2 ⟨n, h, rfl⟩)); omega
      simpa [hnb] using (hM.node n h).alloc (nodeO key val gone)
/-- Behind the floors. -/
theorem put_done {lb : Nat} {lo hi : List Nd} {nw : Nd} {M : Nat → Nat → Option Nat} (h : ChnJ M lb (lo ++ hi) (lo ++ nw :: hi) nw.h) : Chn M lb (lo ++ nw :: hi) := by
  intro f hf
  have h1 := h f hf
  by_cases hlt : f < nw.h
  · rwa [if_pos hlt] at h1
  · rw [if_neg hlt] at h1
    have : flo f (lo ++ nw :: hi) = flo f (lo ++ hi) := by rw [flo_app, flo_cons, if_neg hlt, flo_app]
    rwa [this]
theorem path_cell {w : World} {pb : Nat} {lb : Nat} {ns : List Nd} {key : ByteArray} {t : TypeId} (h : Blk w pb #[.pointer (some ⟨pr lb ns key 0, 0, none⟩), .pointer (some ⟨pr lb ns key 1, 0, none⟩), .pointer (some ⟨pr lb ns key 2, 0, none⟩), .pointer (some ⟨pr lb ns key 3, 0, none⟩)] t) {k : Nat} (hk : k < 4) :
    w.cell? ⟨pb, k, none⟩ = some (.pointer (some ⟨pr lb ns key k, 0, none⟩)) := by
  rw [h.cell]
  rcases (show k = 0 ∨ k = 1 ∨ k = 2 ∨ k = 3 by omega) with rfl | rfl | rfl | rfl <;> rfl

set_option maxRecDepth 20000 in
set_option maxHeartbeats 8000000 in
theorem put_any (lb : Nat) (ns : List Nd) (L : Nat → Nat → Option Nat) (key val : ByteArray) (gone : Bool) (high : Int) (w : World) (hC : Chn L lb ns) (g : TwG lb ns) (hM : Mem w lb ns L (ns.length : Int)) (hsm : ns.length ≤ 900) :
    Calls Try.prog 51 #[.pointer (some ⟨lb, 0, none⟩), .agg #[.string key, .string val, .bool gone], .int .i64 high] w fun e w' => e = .returned (.tuple #[]) ∧ PutP w w' lb ns ⟨key, val, gone⟩ := by
  have HB : Hid (∀ W, Mem W lb ns L (ns.length : Int) → Calls Try.prog 96 #[.pointer (some ⟨lb, 0, none⟩), .string key] W fun e w' => e = .returned (pathV lb ns key) ∧ Ext W w') := fun W h => by
    have := before_any lb ns L _ key W g hC h
    rw [pathV_eq] at this; exact this
  have HD : Hid (∀ W, Mem W lb ns L (ns.length : Int) → Calls Try.prog 97 #[.pointer (some ⟨lb, 0, none⟩), pathV lb ns key, .string key] W fun e w' => e = .returned (.tuple #[]) ∧ ∃ M, Chn M lb (low key ns ++ abv key ns) ∧ Mem w' lb (low key ns ++ abv key ns) M ((low key ns ++ abv key ns).length : Int) ∧ Kp W w' (lb :: ns.map Nd.b)) := fun W h => drop_any lb ns L key W hC g h (by omega)
  have hlb := hM.head.lt
  have hlbn : ¬ lb = w.heap.size := by omega
  unfold pathV at HB HD
  go_enter Try.func51, Try.ntmps51
  have HBl : Hid (Blk (w.alloc (.cells #[.string key, .string val, .bool gone] 30)) w.heap.size #[.string key, .string val, .bool gone] 30) := Blk.new _ _ _
  have HX1 : Hid (Ext w (w.alloc (.cells #[.string key, .string val, .bool gone] 30))) := (Ext.refl w).alloc _
  have hSlt : Hid (∀ x ∈ lb :: ns.map Nd.b, x < w.heap.size) := by
    intro x hx
    rcases List.mem_cons.1 hx with rfl | hx
    · exact hlb
    · obtain ⟨n, hn, rfl⟩ := List.mem_map.1 hx; exact (hM.node n hn).lt
  go_wp2_with (go_at_call 96; refine (HB.out _ (hM.ext HX1.out)).mono ?_; rintro e w2 ⟨rfl, hx2⟩; have hE2 := HBl.out.ext hx2; have e0 : w2.cell? ⟨w.heap.size, 0, none⟩ = some (.string key) := hE2.cell 0; have e1 : w2.cell? ⟨w.heap.size, 1, none⟩ = some (.string val) := hE2.cell 1; have e2 : w2.cell? ⟨w.heap.size, 2, none⟩ = some (.bool gone) := hE2.cell 2; have hl2 := hE2.lt; have hn2 : ¬ w.heap.size = w2.heap.size := Nat.ne_of_lt hl2)
  have hMx := (hM.ext HX1.out).ext hx2
  have hx2w := HX1.out.trans hx2
  have hP3 : Blk (w2.alloc (.cells #[.pointer (some ⟨pr lb ns key 0, 0, none⟩), .pointer (some ⟨pr lb ns key 1, 0, none⟩), .pointer (some ⟨pr lb ns key 2, 0, none⟩), .pointer (some ⟨pr lb ns key 3, 0, none⟩)] 148)) w2.heap.size #[.pointer (some ⟨pr lb ns key 0, 0, none⟩), .pointer (some ⟨pr lb ns key 1, 0, none⟩), .pointer (some ⟨pr lb ns key 2, 0, none⟩), .pointer (some ⟨pr lb ns key 3, 0, none⟩)] 148 := Blk.new _ _ _
  have hE3 := hE2.alloc (.cells #[.pointer (some ⟨pr lb ns key 0, 0, none⟩), .pointer (some ⟨pr lb ns key 1, 0, none⟩), .pointer (some ⟨pr lb ns key 2, 0, none⟩), .pointer (some ⟨pr lb ns key 3, 0, none⟩)] 148)
  have hx3 := hx2w.alloc (.cells #[.pointer (some ⟨pr lb ns key 0, 0, none⟩), .pointer (some ⟨pr lb ns key 1, 0, none⟩), .pointer (some ⟨pr lb ns key 2, 0, none⟩), .pointer (some ⟨pr lb ns key 3, 0, none⟩)] 148)
  have hM3 := hM.ext hx3
  have hs3 : w2.heap.size < (w2.alloc (.cells #[.pointer (some ⟨pr lb ns key 0, 0, none⟩), .pointer (some ⟨pr lb ns key 1, 0, none⟩), .pointer (some ⟨pr lb ns key 2, 0, none⟩), .pointer (some ⟨pr lb ns key 3, 0, none⟩)] 148)).heap.size := by simp
  clear hMx hx2 hE2 e0 e1 e2 HB
  generalize w2.alloc (.cells #[.pointer (some ⟨pr lb ns key 0, 0, none⟩), .pointer (some ⟨pr lb ns key 1, 0, none⟩), .pointer (some ⟨pr lb ns key 2, 0, none⟩), .pointer (some ⟨pr lb ns key 3, 0, none⟩)] 148) = w3 at *
  go_wp2_with (go_at_call 97; refine (HD.out _ hM3).mono ?_; rintro e w4 ⟨rfl, M, hC4, hM4, hK4⟩; have hE4 := hK4.Blk hE3 (by intro h; have := hSlt.out _ h; omega); have e0 : w4.cell? ⟨w.heap.size, 0, none⟩ = some (.string key) := hE4.cell 0; have e1 : w4.cell? ⟨w.heap.size, 1, none⟩ = some (.string val) := hE4.cell 1; have e2 : w4.cell? ⟨w.heap.size, 2, none⟩ = some (.bool gone) := hE4.cell 2; have hl4 := hE4.lt; have hn4 : ¬ w.heap.size = w4.heap.size := Nat.ne_of_lt hl4)
  · have hH : hgt high = 1 := by unfold hgt; omega
    have hH4 := (hgt_le high).2
    have hP4 := hK4.Blk hP3 (by intro h; have := hSlt.out _ h; omega)
    have hP5 := hP4.alloc (nodeO key val gone)
    have hg4 : TwG lb (low key ns ++ abv key ns) := ⟨List.Pairwise.sublist (List.Sublist.cons_cons lb ((abv_sub key ns).map _)) g.nodup, fun n hn => g.hs n ((abv_sub key ns).subset hn), List.Pairwise.sublist ((abv_sub key ns).map _) g.ris⟩
    obtain ⟨hnd, hM5, hJ5⟩ := put_setup (key := key) (val := val) (gone := gone) (high := high) hg4 hC4 hM4
    have hK5 : Kp w (w4.alloc (nodeO key val gone)) (lb :: ns.map Nd.b) := ((Kp.ofExt hx3 _).trans hK4).trans (Kp.ofExt ((Ext.refl w4).alloc _) _)
    have hsz : w.heap.size ≤ w4.heap.size := by omega
    have hsz2 : w2.heap.size ≠ w4.heap.size := by have := hP4.lt; omega
    have hpf : ∀ k, k < 4 → pr lb ns key k ∈ lb :: (low key ns ++ newN w4 key val gone high :: abv key ns).map Nd.b := fun k _ => by
      have := pr_low lb ns key k
      rcases List.mem_cons.1 this with h | h
      · rw [h]; simp
      · refine List.mem_cons_of_mem _ ?_
        rw [List.map_append]; exact List.mem_append_left _ h
    have hpl : ∀ k, pr lb ns key k < w4.heap.size := fun k => by
      have := hSlt.out _ (pr_mem lb ns key k); omega
    have hpn : ∀ k, pr lb ns key k < w.heap.size := fun k => hSlt.out _ (pr_mem lb ns key k)
    unfold nodeO at hP5 hM5 hK5
    clear hM hM3 hM4 hC hC4 hK4 hE3 hP3 hP4 hE4 e0 e1 e2 HD HBl HX1 hg4
    generalize hN : ((low key ns ++ abv key ns).length : Int) = N at *
    have HN : Hid (((low key ns ++ abv key ns).length : Int) = N) := hN
    clear hN
    go_loopw [8, 24] (fun _ i wr => ∃ (k : Nat) (M' : Nat → Nat → Option Nat), k ≤ hgt high ∧ i = .int .i64 k ∧ Mem wr lb (low key ns ++ newN w4 key val gone high :: abv key ns) M' N ∧ ChnJ M' lb (low key ns ++ abv key ns) (low key ns ++ newN w4 key val gone high :: abv key ns) k ∧ Kp w wr (lb :: ns.map Nd.b) ∧ Blk wr w2.heap.size #[.pointer (some ⟨pr lb ns key 0, 0, none⟩), .pointer (some ⟨pr lb ns key 1, 0, none⟩), .pointer (some ⟨pr lb ns key 2, 0, none⟩), .pointer (some ⟨pr lb ns key 3, 0, none⟩)] 148) (fun _ i _ => 4 - (intOf i).toNat)
    case atStart => exact ⟨0, _, Nat.zero_le _, rfl, hM5, hJ5, hK5, hP5⟩
    case round =>
      clear hM5 hJ5 hK5 hP5
      obtain ⟨k, M', hkH, rfl, hM', hJ, hK, hP⟩ := hrel
      by_cases hlt : k < hgt high
      · have hk4 : k < 4 := by omega
        have hB : (k : Int) < 1 := by omega
        have hk0 : (0 : Int) ≤ (k : Int) := by omega
        have hk5 : (k : Int) < 4 := by omega
        obtain ⟨a1, a2, a3⟩ := hM'.link (hpf k hk4) hk4
        obtain ⟨b1, b2, b3⟩ := hM'.link (a := w4.heap.size) (by simp [newN]) hk4
        have p1 := path_cell hP hk4
        have hpk := hpl k
        have hne : pr lb ns key k ≠ w4.heap.size := by omega
        have hJ2 := ins_step (n0 := newN w4 key val gone high) hnd hJ hk4 hlt
        have hM2 := (hM'.set hnd hk4 (a := w4.heap.size) (by simp [newN]) (M' (pr lb ns key k) k)).set hnd hk4 (hpf k hk4) (some w4.heap.size)
        have HM2 : Hid (Mem ((wr.setCell ⟨w4.heap.size, 3 + k, none⟩ (ptr (M' (pr lb ns key k) k))).setCell ⟨pr lb ns key k, 3 + k, none⟩ (ptr (some w4.heap.size))) lb (low key ns ++ newN w4 key val gone high :: abv key ns) (setL (setL M' w4.heap.size k (M' (pr lb ns key k) k)) (pr lb ns key k) k (some w4.heap.size)) N) := hM2
        have HJ2 : Hid (ChnJ (setL (setL M' w4.heap.size k (M' (pr lb ns key k) k)) (pr lb ns key k) k (some w4.heap.size)) lb (low key ns ++ abv key ns) (low key ns ++ newN w4 key val gone high :: abv key ns) (k + 1)) := hJ2
        generalize M' (pr lb ns key k) k = lnk at *
        have HK2 : Hid (Kp w ((wr.setCell ⟨w4.heap.size, 3 + k, none⟩ (ptr lnk)).setCell ⟨pr lb ns key k, 3 + k, none⟩ (ptr (some w4.heap.size))) (lb :: ns.map Nd.b)) := (hK.setNew hsz (3 + k) (ptr lnk)).trans (Kp.set _ (pr_mem lb ns key k) _)
        have hpw2 : w2.heap.size ≠ pr lb ns key k := by have := hpn k; omega
        have HP2 : Hid (Blk ((wr.setCell ⟨w4.heap.size, 3 + k, none⟩ (ptr lnk)).setCell ⟨pr lb ns key k, 3 + k, none⟩ (ptr (some w4.heap.size))) w2.heap.size #[.pointer (some ⟨pr lb ns key 0, 0, none⟩), .pointer (some ⟨pr lb ns key 1, 0, none⟩), .pointer (some ⟨pr lb ns key 2, 0, none⟩), .pointer (some ⟨pr lb ns key 3, 0, none⟩)] 148) := (hP.other (a := ⟨w4.heap.size, 3 + k, none⟩) hsz2 _).other (a := ⟨pr lb ns key k, 3 + k, none⟩) hpw2 _
        have p2 : (wr.setCell ⟨w4.heap.size, 3 + k, none⟩ (ptr lnk)).cell? ⟨w2.heap.size, k, none⟩ = some (.pointer (some ⟨pr lb ns key k, 0, none⟩)) := by rw [cell_far _ hsz2]; exact p1
        have a4 : (wr.setCell ⟨w4.heap.size, 3 + k, none⟩ (ptr lnk)).cell? ⟨pr lb ns key k, 3 + k, none⟩ = some (ptr lnk) := by rw [cell_far _ hne]; exact a1
        obtain ⟨_, a5, a6⟩ := (hM'.set hnd hk4 (a := w4.heap.size) (by simp [newN]) lnk).link (hpf k hk4) hk4
        unfold ptr at a1 b1 p2 a4 a5 a6 HM2 HK2 HP2
        clear hM' hJ hK hP hM2 hJ2
        go_wp2_with fail
        go_region_held3 (fun w' => w'.cell? ⟨w2.heap.size, k, none⟩ = some (.pointer (some ⟨pr lb ns key k, 0, none⟩)) ∧ w'.cell? ⟨pr lb ns key k, 3 + k, none⟩ = some (.pointer (lnk.map fun b => ⟨b, 0, none⟩))) (first | (go_keep; done) | exact ⟨p2, a4⟩) (fail)
        go_wp2
        go_roundw
        case rel => exact ⟨k + 1, _, by omega, by go_num, HM2.out.ext (by repeat (first | exact Ext.refl _ | refine Ext.drew ?_ | refine Ext.drewN ?_ _)), HJ2.out, HK2.out.trans (Kp.ofExt (by repeat (first | exact Ext.refl _ | refine Ext.drew ?_ | refine Ext.drewN ?_ _)) _), HP2.out.ext (by repeat (first | exact Ext.refl _ | refine Ext.drew ?_ | refine Ext.drewN ?_ _))⟩
        case measure => simp [intOf]; omega
      · obtain rfl : k = hgt high := by omega
        have hB : ¬ ((hgt high : Int) < 1) := by omega
        have hC2 : Chn M' lb (low key ns ++ newN w4 key val gone high :: abv key ns) := put_done hJ
        have hc : wr.cell? ⟨lb, 7, none⟩ = some (.int .i64 N) := hM'.head.cell 7
        have hf := hM'.head.free 7
        have hl := hM'.head.lt
        have hms : (low key ns ++ newN w4 key val gone high :: abv key ns).map Nd.e = putE (ns.map Nd.e) ⟨key, val, gone⟩ := by
          rw [put_split' g]; simp [newN]
        have hN1 : N + 1 = ((low key ns ++ newN w4 key val gone high :: abv key ns).length : Int) := by rw [← HN.out]; simp; omega
        have hNb : 0 ≤ N ∧ N ≤ 1000 := by
          rw [← HN.out]
          have := (abv_sub key ns).length_le
          omega
        have HM2 := hM'.many hnd (N + 1)
        have HM3 : Hid (Mem (wr.setCell ⟨lb, 7, none⟩ (.int .i64 (N + 1))) lb (low key ns ++ newN w4 key val gone high :: abv key ns) M' ((low key ns ++ newN w4 key val gone high :: abv key ns).length : Int)) := by rw [← hN1]; exact HM2
        have hK2 := hK.trans (Kp.set wr (b := lb) (o := 7) (S := lb :: ns.map Nd.b) (by simp) (.int .i64 (N + 1)))
        have hg2 : TwG lb (low key ns ++ newN w4 key val gone high :: abv key ns) := ⟨hnd, fun n hn => by
          rcases List.mem_append.1 hn with h | h
          · exact g.hs n (by rw [← low_hig key ns]; exact List.mem_append_left _ h)
          · rcases List.mem_cons.1 h with rfl | h
            · exact hgt_le high
            · exact g.hs n ((abv_sub key ns).subset (List.mem_append_right _ h)), by rw [hms]; exact g.ris.put _⟩
        have hfr : ∀ n ∈ low key ns ++ newN w4 key val gone high :: abv key ns, n.b ∈ ns.map Nd.b ∨ w.heap.size ≤ n.b := fun n hn => by
          rcases List.mem_append.1 hn with h | h
          · exact .inl (List.mem_map.2 ⟨n, (abv_sub key ns).subset (List.mem_append_left _ h), rfl⟩)
          · rcases List.mem_cons.1 h with rfl | h
            · exact .inr hsz
            · exact .inl (List.mem_map.2 ⟨n, (abv_sub key ns).subset (List.mem_append_right _ h), rfl⟩)
        have HA : Hid (PutP w (wr.setCell ⟨lb, 7, none⟩ (.int .i64 (N + 1))) lb ns ⟨key, val, gone⟩) := ⟨_, M', hg2, hC2, HM3.out, hms, hK2, hfr⟩
        clear HM2 HM3 hM' hJ hK hP hN1 hms hC2 hK2 hg2 hfr HN
        go_wp2
        go_end0
        exact ⟨rfl, HA.out⟩
  · have hH : hgt high = 4 := by unfold hgt; omega
    have hH4 := (hgt_le high).2
    have hP4 := hK4.Blk hP3 (by intro h; have := hSlt.out _ h; omega)
    have hP5 := hP4.alloc (nodeO key val gone)
    have hg4 : TwG lb (low key ns ++ abv key ns) := ⟨List.Pairwise.sublist (List.Sublist.cons_cons lb ((abv_sub key ns).map _)) g.nodup, fun n hn => g.hs n ((abv_sub key ns).subset hn), List.Pairwise.sublist ((abv_sub key ns).map _) g.ris⟩
    obtain ⟨hnd, hM5, hJ5⟩ := put_setup (key := key) (val := val) (gone := gone) (high := high) hg4 hC4 hM4
    have hK5 : Kp w (w4.alloc (nodeO key val gone)) (lb :: ns.map Nd.b) := ((Kp.ofExt hx3 _).trans hK4).trans (Kp.ofExt ((Ext.refl w4).alloc _) _)
    have hsz : w.heap.size ≤ w4.heap.size := by omega
    have hsz2 : w2.heap.size ≠ w4.heap.size := by have := hP4.lt; omega
    have hpf : ∀ k, k < 4 → pr lb ns key k ∈ lb :: (low key ns ++ newN w4 key val gone high :: abv key ns).map Nd.b := fun k _ => by
      have := pr_low lb ns key k
      rcases List.mem_cons.1 this with h | h
      · rw [h]; simp
      · refine List.mem_cons_of_mem _ ?_
        rw [List.map_append]; exact List.mem_append_left _ h
    have hpl : ∀ k, pr lb ns key k < w4.heap.size := fun k => by
      have := hSlt.out _ (pr_mem lb ns key k); omega
    have hpn : ∀ k, pr lb ns key k < w.heap.size := fun k => hSlt.out _ (pr_mem lb ns key k)
    unfold nodeO at hP5 hM5 hK5
    clear hM hM3 hM4 hC hC4 hK4 hE3 hP3 hP4 hE4 e0 e1 e2 HD HBl HX1 hg4
    generalize hN : ((low key ns ++ abv key ns).length : Int) = N at *
    have HN : Hid (((low key ns ++ abv key ns).length : Int) = N) := hN
    clear hN
    go_loopw [8, 24] (fun _ i wr => ∃ (k : Nat) (M' : Nat → Nat → Option Nat), k ≤ hgt high ∧ i = .int .i64 k ∧ Mem wr lb (low key ns ++ newN w4 key val gone high :: abv key ns) M' N ∧ ChnJ M' lb (low key ns ++ abv key ns) (low key ns ++ newN w4 key val gone high :: abv key ns) k ∧ Kp w wr (lb :: ns.map Nd.b) ∧ Blk wr w2.heap.size #[.pointer (some ⟨pr lb ns key 0, 0, none⟩), .pointer (some ⟨pr lb ns key 1, 0, none⟩), .pointer (some ⟨pr lb ns key 2, 0, none⟩), .pointer (some ⟨pr lb ns key 3, 0, none⟩)] 148) (fun _ i _ => 4 - (intOf i).toNat)
    case atStart => exact ⟨0, _, Nat.zero_le _, rfl, hM5, hJ5, hK5, hP5⟩
    case round =>
      clear hM5 hJ5 hK5 hP5
      obtain ⟨k, M', hkH, rfl, hM', hJ, hK, hP⟩ := hrel
      by_cases hlt : k < hgt high
      · have hk4 : k < 4 := by omega
        have hB : (k : Int) < 4 := by omega
        have hk0 : (0 : Int) ≤ (k : Int) := by omega
        have hk5 : (k : Int) < 4 := by omega
        obtain ⟨a1, a2, a3⟩ := hM'.link (hpf k hk4) hk4
        obtain ⟨b1, b2, b3⟩ := hM'.link (a := w4.heap.size) (by simp [newN]) hk4
        have p1 := path_cell hP hk4
        have hpk := hpl k
        have hne : pr lb ns key k ≠ w4.heap.size := by omega
        have hJ2 := ins_step (n0 := newN w4 key val gone high) hnd hJ hk4 hlt
        have hM2 := (hM'.set hnd hk4 (a := w4.heap.size) (by simp [newN]) (M' (pr lb ns key k) k)).set hnd hk4 (hpf k hk4) (some w4.heap.size)
        have HM2 : Hid (Mem ((wr.setCell ⟨w4.heap.size, 3 + k, none⟩ (ptr (M' (pr lb ns key k) k))).setCell ⟨pr lb ns key k, 3 + k, none⟩ (ptr (some w4.heap.size))) lb (low key ns ++ newN w4 key val gone high :: abv key ns) (setL (setL M' w4.heap.size k (M' (pr lb ns key k) k)) (pr lb ns key k) k (some w4.heap.size)) N) := hM2
        have HJ2 : Hid (ChnJ (setL (setL M' w4.heap.size k (M' (pr lb ns key k) k)) (pr lb ns key k) k (some w4.heap.size)) lb (low key ns ++ abv key ns) (low key ns ++ newN w4 key val gone high :: abv key ns) (k + 1)) := hJ2
        generalize M' (pr lb ns key k) k = lnk at *
        have HK2 : Hid (Kp w ((wr.setCell ⟨w4.heap.size, 3 + k, none⟩ (ptr lnk)).setCell ⟨pr lb ns key k, 3 + k, none⟩ (ptr (some w4.heap.size))) (lb :: ns.map Nd.b)) := (hK.setNew hsz (3 + k) (ptr lnk)).trans (Kp.set _ (pr_mem lb ns key k) _)
        have hpw2 : w2.heap.size ≠ pr lb ns key k := by have := hpn k; omega
        have HP2 : Hid (Blk ((wr.setCell ⟨w4.heap.size, 3 + k, none⟩ (ptr lnk)).setCell ⟨pr lb ns key k, 3 + k, none⟩ (ptr (some w4.heap.size))) w2.heap.size #[.pointer (some ⟨pr lb ns key 0, 0, none⟩), .pointer (some ⟨pr lb ns key 1, 0, none⟩), .pointer (some ⟨pr lb ns key 2, 0, none⟩), .pointer (some ⟨pr lb ns key 3, 0, none⟩)] 148) := (hP.other (a := ⟨w4.heap.size, 3 + k, none⟩) hsz2 _).other (a := ⟨pr lb ns key k, 3 + k, none⟩) hpw2 _
        have p2 : (wr.setCell ⟨w4.heap.size, 3 + k, none⟩ (ptr lnk)).cell? ⟨w2.heap.size, k, none⟩ = some (.pointer (some ⟨pr lb ns key k, 0, none⟩)) := by rw [cell_far _ hsz2]; exact p1
        have a4 : (wr.setCell ⟨w4.heap.size, 3 + k, none⟩ (ptr lnk)).cell? ⟨pr lb ns key k, 3 + k, none⟩ = some (ptr lnk) := by rw [cell_far _ hne]; exact a1
        obtain ⟨_, a5, a6⟩ := (hM'.set hnd hk4 (a := w4.heap.size) (by simp [newN]) lnk).link (hpf k hk4) hk4
        unfold ptr at a1 b1 p2 a4 a5 a6 HM2 HK2 HP2
        clear hM' hJ hK hP hM2 hJ2
        go_wp2_with fail
        go_region_held3 (fun w' => w'.cell? ⟨w2.heap.size, k, none⟩ = some (.pointer (some ⟨pr lb ns key k, 0, none⟩)) ∧ w'.cell? ⟨pr lb ns key k, 3 + k, none⟩ = some (.pointer (lnk.map fun b => ⟨b, 0, none⟩))) (first | (go_keep; done) | exact ⟨p2, a4⟩) (fail)
        go_wp2
        go_roundw
        case rel => exact ⟨k + 1, _, by omega, by go_num, HM2.out.ext (by repeat (first | exact Ext.refl _ | refine Ext.drew ?_ | refine Ext.drewN ?_ _)), HJ2.out, HK2.out.trans (Kp.ofExt (by repeat (first | exact Ext.refl _ | refine Ext.drew ?_ | refine Ext.drewN ?_ _)) _), HP2.out.ext (by repeat (first | exact Ext.refl _ | refine Ext.drew ?_ | refine Ext.drewN ?_ _))⟩
        case measure => simp [intOf]; omega
      · obtain rfl : k = hgt high := by omega
        have hB : ¬ ((hgt high : Int) < 4) := by omega
        have hC2 : Chn M' lb (low key ns ++ newN w4 key val gone high :: abv key ns) := put_done hJ
        have hc : wr.cell? ⟨lb, 7, none⟩ = some (.int .i64 N) := hM'.head.cell 7
        have hf := hM'.head.free 7
        have hl := hM'.head.lt
        have hms : (low key ns ++ newN w4 key val gone high :: abv key ns).map Nd.e = putE (ns.map Nd.e) ⟨key, val, gone⟩ := by
          rw [put_split' g]; simp [newN]
        have hN1 : N + 1 = ((low key ns ++ newN w4 key val gone high :: abv key ns).length : Int) := by rw [← HN.out]; simp; omega
        have hNb : 0 ≤ N ∧ N ≤ 1000 := by
          rw [← HN.out]
          have := (abv_sub key ns).length_le
          omega
        have HM2 := hM'.many hnd (N + 1)
        have HM3 : Hid (Mem (wr.setCell ⟨lb, 7, none⟩ (.int .i64 (N + 1))) lb (low key ns ++ newN w4 key val gone high :: abv key ns) M' ((low key ns ++ newN w4 key val gone high :: abv key ns).length : Int)) := by rw [← hN1]; exact HM2
        have hK2 := hK.trans (Kp.set wr (b := lb) (o := 7) (S := lb :: ns.map Nd.b) (by simp) (.int .i64 (N + 1)))
        have hg2 : TwG lb (low key ns ++ newN w4 key val gone high :: abv key ns) := ⟨hnd, fun n hn => by
          rcases List.mem_append.1 hn with h | h
          · exact g.hs n (by rw [← low_hig key ns]; exact List.mem_append_left _ h)
          · rcases List.mem_cons.1 h with rfl | h
            · exact hgt_le high
            · exact g.hs n ((abv_sub key ns).subset (List.mem_append_right _ h)), by rw [hms]; exact g.ris.put _⟩
        have hfr : ∀ n ∈ low key ns ++ newN w4 key val gone high :: abv key ns, n.b ∈ ns.map Nd.b ∨ w.heap.size ≤ n.b := fun n hn => by
          rcases List.mem_append.1 hn with h | h
          · exact .inl (List.mem_map.2 ⟨n, (abv_sub key ns).subset (List.mem_append_left _ h), rfl⟩)
          · rcases List.mem_cons.1 h with rfl | h
            · exact .inr hsz
            · exact .inl (List.mem_map.2 ⟨n, (abv_sub key ns).subset (List.mem_append_right _ h), rfl⟩)
        have HA : Hid (PutP w (wr.setCell ⟨lb, 7, none⟩ (.int .i64 (N + 1))) lb ns ⟨key, val, gone⟩) := ⟨_, M', hg2, hC2, HM3.out, hms, hK2, hfr⟩
        clear HM2 HM3 hM' hJ hK hP hN1 hms hC2 hK2 hg2 hfr HN
        go_wp2
        go_end0
        exact ⟨rfl, HA.out⟩
  · have hH : (hgt high : Int) = high := by unfold hgt; omega
    have hH4 := (hgt_le high).2
    have hP4 := hK4.Blk hP3 (by intro h; have := hSlt.out _ h; omega)
    have hP5 := hP4.alloc (nodeO key val gone)
    have hg4 : TwG lb (low key ns ++ abv key ns) := ⟨List.Pairwise.sublist (List.Sublist.cons_cons lb ((abv_sub key ns).map _)) g.nodup, fun n hn => g.hs n ((abv_sub key ns).subset hn), List.Pairwise.sublist ((abv_sub key ns).map _) g.ris⟩
    obtain ⟨hnd, hM5, hJ5⟩ := put_setup (key := key) (val := val) (gone := gone) (high := high) hg4 hC4 hM4
    have hK5 : Kp w (w4.alloc (nodeO key val gone)) (lb :: ns.map Nd.b) := ((Kp.ofExt hx3 _).trans hK4).trans (Kp.ofExt ((Ext.refl w4).alloc _) _)
    have hsz : w.heap.size ≤ w4.heap.size := by omega
    have hsz2 : w2.heap.size ≠ w4.heap.size := by have := hP4.lt; omega
    have hpf : ∀ k, k < 4 → pr lb ns key k ∈ lb :: (low key ns ++ newN w4 key val gone high :: abv key ns).map Nd.b := fun k _ => by
      have := pr_low lb ns key k
      rcases List.mem_cons.1 this with h | h
      · rw [h]; simp
      · refine List.mem_cons_of_mem _ ?_
        rw [List.map_append]; exact List.mem_append_left _ h
    have hpl : ∀ k, pr lb ns key k < w4.heap.size := fun k => by
      have := hSlt.out _ (pr_mem lb ns key k); omega
    have hpn : ∀ k, pr lb ns key k < w.heap.size := fun k => hSlt.out _ (pr_mem lb ns key k)
    unfold nodeO at hP5 hM5 hK5
    clear hM hM3 hM4 hC hC4 hK4 hE3 hP3 hP4 hE4 e0 e1 e2 HD HBl HX1 hg4
    generalize hN : ((low key ns ++ abv key ns).length : Int) = N at *
    have HN : Hid (((low key ns ++ abv key ns).length : Int) = N) := hN
    clear hN
    go_loopw [8, 24] (fun _ i wr => ∃ (k : Nat) (M' : Nat → Nat → Option Nat), k ≤ hgt high ∧ i = .int .i64 k ∧ Mem wr lb (low key ns ++ newN w4 key val gone high :: abv key ns) M' N ∧ ChnJ M' lb (low key ns ++ abv key ns) (low key ns ++ newN w4 key val gone high :: abv key ns) k ∧ Kp w wr (lb :: ns.map Nd.b) ∧ Blk wr w2.heap.size #[.pointer (some ⟨pr lb ns key 0, 0, none⟩), .pointer (some ⟨pr lb ns key 1, 0, none⟩), .pointer (some ⟨pr lb ns key 2, 0, none⟩), .pointer (some ⟨pr lb ns key 3, 0, none⟩)] 148) (fun _ i _ => 4 - (intOf i).toNat)
    case atStart => exact ⟨0, _, Nat.zero_le _, rfl, hM5, hJ5, hK5, hP5⟩
    case round =>
      clear hM5 hJ5 hK5 hP5
      obtain ⟨k, M', hkH, rfl, hM', hJ, hK, hP⟩ := hrel
      by_cases hlt : k < hgt high
      · have hk4 : k < 4 := by omega
        have hB : (k : Int) < high := by omega
        have hk0 : (0 : Int) ≤ (k : Int) := by omega
        have hk5 : (k : Int) < 4 := by omega
        obtain ⟨a1, a2, a3⟩ := hM'.link (hpf k hk4) hk4
        obtain ⟨b1, b2, b3⟩ := hM'.link (a := w4.heap.size) (by simp [newN]) hk4
        have p1 := path_cell hP hk4
        have hpk := hpl k
        have hne : pr lb ns key k ≠ w4.heap.size := by omega
        have hJ2 := ins_step (n0 := newN w4 key val gone high) hnd hJ hk4 hlt
        have hM2 := (hM'.set hnd hk4 (a := w4.heap.size) (by simp [newN]) (M' (pr lb ns key k) k)).set hnd hk4 (hpf k hk4) (some w4.heap.size)
        have HM2 : Hid (Mem ((wr.setCell ⟨w4.heap.size, 3 + k, none⟩ (ptr (M' (pr lb ns key k) k))).setCell ⟨pr lb ns key k, 3 + k, none⟩ (ptr (some w4.heap.size))) lb (low key ns ++ newN w4 key val gone high :: abv key ns) (setL (setL M' w4.heap.size k (M' (pr lb ns key k) k)) (pr lb ns key k) k (some w4.heap.size)) N) := hM2
        have HJ2 : Hid (ChnJ (setL (setL M' w4.heap.size k (M' (pr lb ns key k) k)) (pr lb ns key k) k (some w4.heap.size)) lb (low key ns ++ abv key ns) (low key ns ++ newN w4 key val gone high :: abv key ns) (k + 1)) := hJ2
        generalize M' (pr lb ns key k) k = lnk at *
        have HK2 : Hid (Kp w ((wr.setCell ⟨w4.heap.size, 3 + k, none⟩ (ptr lnk)).setCell ⟨pr lb ns key k, 3 + k, none⟩ (ptr (some w4.heap.size))) (lb :: ns.map Nd.b)) := (hK.setNew hsz (3 + k) (ptr lnk)).trans (Kp.set _ (pr_mem lb ns key k) _)
        have hpw2 : w2.heap.size ≠ pr lb ns key k := by have := hpn k; omega
        have HP2 : Hid (Blk ((wr.setCell ⟨w4.heap.size, 3 + k, none⟩ (ptr lnk)).setCell ⟨pr lb ns key k, 3 + k, none⟩ (ptr (some w4.heap.size))) w2.heap.size #[.pointer (some ⟨pr lb ns key 0, 0, none⟩), .pointer (some ⟨pr lb ns key 1, 0, none⟩), .pointer (some ⟨pr lb ns key 2, 0, none⟩), .pointer (some ⟨pr lb ns key 3, 0, none⟩)] 148) := (hP.other (a := ⟨w4.heap.size, 3 + k, none⟩) hsz2 _).other (a := ⟨pr lb ns key k, 3 + k, none⟩) hpw2 _
        have p2 : (wr.setCell ⟨w4.heap.size, 3 + k, none⟩ (ptr lnk)).cell? ⟨w2.heap.size, k, none⟩ = some (.pointer (some ⟨pr lb ns key k, 0, none⟩)) := by rw [cell_far _ hsz2]; exact p1
        have a4 : (wr.setCell ⟨w4.heap.size, 3 + k, none⟩ (ptr lnk)).cell? ⟨pr lb ns key k, 3 + k, none⟩ = some (ptr lnk) := by rw [cell_far _ hne]; exact a1
        obtain ⟨_, a5, a6⟩ := (hM'.set hnd hk4 (a := w4.heap.size) (by simp [newN]) lnk).link (hpf k hk4) hk4
        unfold ptr at a1 b1 p2 a4 a5 a6 HM2 HK2 HP2
        clear hM' hJ hK hP hM2 hJ2
        go_wp2_with fail
        go_region_held3 (fun w' => w'.cell? ⟨w2.heap.size, k, none⟩ = some (.pointer (some ⟨pr lb ns key k, 0, none⟩)) ∧ w'.cell? ⟨pr lb ns key k, 3 + k, none⟩ = some (.pointer (lnk.map fun b => ⟨b, 0, none⟩))) (first | (go_keep; done) | exact ⟨p2, a4⟩) (fail)
        go_wp2
        go_roundw
        case rel => exact ⟨k + 1, _, by omega, by go_num, HM2.out.ext (by repeat (first | exact Ext.refl _ | refine Ext.drew ?_ | refine Ext.drewN ?_ _)), HJ2.out, HK2.out.trans (Kp.ofExt (by repeat (first | exact Ext.refl _ | refine Ext.drew ?_ | refine Ext.drewN ?_ _)) _), HP2.out.ext (by repeat (first | exact Ext.refl _ | refine Ext.drew ?_ | refine Ext.drewN ?_ _))⟩
        case measure => simp [intOf]; omega
      · obtain rfl : k = hgt high := by omega
        have hB : ¬ ((hgt high : Int) < high) := by omega
        have hC2 : Chn M' lb (low key ns ++ newN w4 key val gone high :: abv key ns) := put_done hJ
        have hc : wr.cell? ⟨lb, 7, none⟩ = some (.int .i64 N) := hM'.head.cell 7
        have hf := hM'.head.free 7
        have hl := hM'.head.lt
        have hms : (low key ns ++ newN w4 key val gone high :: abv key ns).map Nd.e = putE (ns.map Nd.e) ⟨key, val, gone⟩ := by
          rw [put_split' g]; simp [newN]
        have hN1 : N + 1 = ((low key ns ++ newN w4 key val gone high :: abv key ns).length : Int) := by rw [← HN.out]; simp; omega
        have hNb : 0 ≤ N ∧ N ≤ 1000 := by
          rw [← HN.out]
          have := (abv_sub key ns).length_le
          omega
        have HM2 := hM'.many hnd (N + 1)
        have HM3 : Hid (Mem (wr.setCell ⟨lb, 7, none⟩ (.int .i64 (N + 1))) lb (low key ns ++ newN w4 key val gone high :: abv key ns) M' ((low key ns ++ newN w4 key val gone high :: abv key ns).length : Int)) := by rw [← hN1]; exact HM2
        have hK2 := hK.trans (Kp.set wr (b := lb) (o := 7) (S := lb :: ns.map Nd.b) (by simp) (.int .i64 (N + 1)))
        have hg2 : TwG lb (low key ns ++ newN w4 key val gone high :: abv key ns) := ⟨hnd, fun n hn => by
          rcases List.mem_append.1 hn with h | h
          · exact g.hs n (by rw [← low_hig key ns]; exact List.mem_append_left _ h)
          · rcases List.mem_cons.1 h with rfl | h
            · exact hgt_le high
            · exact g.hs n ((abv_sub key ns).subset (List.mem_append_right _ h)), by rw [hms]; exact g.ris.put _⟩
        have hfr : ∀ n ∈ low key ns ++ newN w4 key val gone high :: abv key ns, n.b ∈ ns.map Nd.b ∨ w.heap.size ≤ n.b := fun n hn => by
          rcases List.mem_append.1 hn with h | h
          · exact .inl (List.mem_map.2 ⟨n, (abv_sub key ns).subset (List.mem_append_left _ h), rfl⟩)
          · rcases List.mem_cons.1 h with rfl | h
            · exact .inr hsz
            · exact .inl (List.mem_map.2 ⟨n, (abv_sub key ns).subset (List.mem_append_right _ h), rfl⟩)
        have HA : Hid (PutP w (wr.setCell ⟨lb, 7, none⟩ (.int .i64 (N + 1))) lb ns ⟨key, val, gone⟩) := ⟨_, M', hg2, hC2, HM3.out, hms, hK2, hfr⟩
        clear HM2 HM3 hM' hJ hK hP hN1 hms hC2 hK2 hg2 hfr HN
        go_wp2
        go_end0
        exact ⟨rfl, HA.out⟩
end Go.Proofs.Ytpldeejagomfjaa
