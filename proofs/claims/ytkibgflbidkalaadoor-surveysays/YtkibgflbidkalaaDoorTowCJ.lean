/- TowM TowA TowB TowC. -/
import Derived.Test.YtkibgflbidkalaaDoorLstMJ
import Derived.Deep.RegionHeld3
import Derived.Deep.LoopGhost
import Derived.LaidEqlPtr

/- Towers: nodes, floors, links. -/
namespace Go.Proofs.YtkibgflbidkalaaDoor
open Go.RowKit

/-- A node: its block, its entry, how high it is. -/
structure Nd where
  b : Nat
  e : Ent
  h : Nat
/-- The nodes of a floor. -/
def flo (f : Nat) (ns : List Nd) : List Nat := (ns.filter (fun n => decide (f < n.h))).map Nd.b
theorem flo_app (f : Nat) (a b : List Nd) : flo f (a ++ b) = flo f a ++ flo f b := by simp [flo]
theorem flo_cons (f : Nat) (n : Nd) (r : List Nd) : flo f (n :: r) = if f < n.h then n.b :: flo f r else flo f r := by
  unfold flo; by_cases h : f < n.h <;> simp [h]
theorem flo_mem {f c : Nat} {ns : List Nd} (h : c ∈ flo f ns) : ∃ n ∈ ns, n.b = c ∧ f < n.h := by
  unfold flo at h
  obtain ⟨n, hn, rfl⟩ := List.mem_map.1 h
  have := List.mem_filter.1 hn
  exact ⟨n, this.1, rfl, by simpa using this.2⟩
theorem flo_sub {f : Nat} {ns : List Nd} : (flo f ns).Sublist (ns.map Nd.b) := List.Sublist.map _ List.filter_sublist
theorem flo_zero {ns : List Nd} (h : ∀ n ∈ ns, 1 ≤ n.h) : flo 0 ns = ns.map Nd.b := by
  unfold flo; congr 1; rw [List.filter_eq_self]; intro n hn; have := h n hn; simp; omega
/-- From a, by links, through a list to the end. -/
def LL (L : Nat → Option Nat) : Nat → List Nat → Prop
  | a, [] => L a = none
  | a, b :: r => L a = some b ∧ LL L b r
/-- The last one of a list, or a. -/
def lst : Nat → List Nat → Nat
  | a, [] => a
  | _, b :: r => lst b r
theorem lst_mem (a : Nat) (p : List Nat) : lst a p ∈ a :: p := by
  induction p generalizing a with
  | nil => simp [lst]
  | cons b r ih => have := ih b; simp only [lst]; exact List.mem_cons_of_mem _ this
theorem lst_app (a c : Nat) (p : List Nat) : lst a (p ++ [c]) = c := by
  induction p generalizing a with
  | nil => rfl
  | cons b r ih => exact ih b
theorem lst_ne (a c : Nat) (p : List Nat) (h : p ≠ []) : lst a p = lst c p := by
  cases p with
  | nil => exact absurd rfl h
  | cons b r => rfl
theorem LL.to {L : Nat → Option Nat} {a : Nat} {p q : List Nat} (h : LL L a (p ++ q)) : LL L (lst a p) q := by
  induction p generalizing a with
  | nil => exact h
  | cons b r ih => exact ih h.2
theorem LL.head {L : Nat → Option Nat} {a : Nat} {q : List Nat} (h : LL L a q) : L a = q.head? := by
  cases q with
  | nil => exact h
  | cons b r => exact h.1
theorem LL.congr {L M : Nat → Option Nat} {a : Nat} {q : List Nat} (h : LL L a q) (hc : ∀ c ∈ a :: q, M c = L c) : LL M a q := by
  induction q generalizing a with
  | nil => show M a = none; rw [hc a (by simp)]; exact h
  | cons b r ih => exact ⟨by rw [hc a (by simp)]; exact h.1, ih h.2 fun c hh => hc c (List.mem_cons_of_mem _ hh)⟩
theorem LL.upd {L M : Nat → Option Nat} {a : Nat} {p q q' : List Nat} (h : LL L a (p ++ q)) (hn : (a :: p).Nodup) (hM : ∀ c ∈ a :: p, c ≠ lst a p → M c = L c) (hq : LL M (lst a p) q') : LL M a (p ++ q') := by
  induction p generalizing a with
  | nil => exact hq
  | cons b r ih =>
    have hn' := List.nodup_cons.1 hn
    have hne : a ≠ lst a (b :: r) := by
      intro e
      have : lst b r ∈ b :: r := lst_mem b r
      exact hn'.1 (by rw [e]; exact this)
    refine ⟨?_, ih h.2 hn'.2 (fun c hc hcc => hM c (List.mem_cons_of_mem _ hc) hcc) hq⟩
    show M a = some b
    rw [hM a (by simp) hne]; exact h.1
/-- Fewer of a list: their last one is on the way of the others. -/
theorem lst_split (P Q : Nd → Bool) (hPQ : ∀ n, P n = true → Q n = true) (l : List Nd) (a : Nat) : ∃ p rest, (l.filter Q).map Nd.b = p ++ rest ∧ lst a ((l.filter P).map Nd.b) = lst a p := by
  induction l generalizing a with
  | nil => exact ⟨[], [], rfl, rfl⟩
  | cons n r ih =>
    cases hp : P n with
    | true =>
      obtain ⟨p, rest, h1, h2⟩ := ih n.b
      refine ⟨n.b :: p, rest, ?_, ?_⟩
      · rw [List.filter_cons, if_pos (hPQ n hp), List.map_cons, h1]; rfl
      · rw [List.filter_cons, if_pos hp, List.map_cons]; exact h2
    | false =>
      obtain ⟨p, rest, h1, h2⟩ := ih a
      have hf : (n :: r).filter P = r.filter P := by rw [List.filter_cons, if_neg (by simp [hp])]
      rw [hf]
      cases hq : Q n with
      | false => exact ⟨p, rest, by rw [List.filter_cons, if_neg (by simp [hq])]; exact h1, h2⟩
      | true =>
        have hg : ((n :: r).filter Q).map Nd.b = n.b :: (p ++ rest) := by rw [List.filter_cons, if_pos hq, List.map_cons, h1]
        rw [hg]
        cases p with
        | nil => exact ⟨[], n.b :: rest, rfl, h2⟩
        | cons c p => exact ⟨n.b :: c :: p, rest, rfl, h2⟩
theorem flo_split (f : Nat) (l : List Nd) (a : Nat) : ∃ p rest, flo f l = p ++ rest ∧ lst a (flo (f + 1) l) = lst a p :=
  lst_split _ _ (fun n h => by simp at *; omega) l a

/-- The nodes below a key; the others. -/
def low (k : ByteArray) (ns : List Nd) : List Nd := ns.takeWhile (fun n => decide (Lt n.e.key k))
def hig (k : ByteArray) (ns : List Nd) : List Nd := ns.dropWhile (fun n => decide (Lt n.e.key k))
theorem low_hig (k : ByteArray) (ns : List Nd) : low k ns ++ hig k ns = ns := List.takeWhile_append_dropWhile
theorem low_lt {k : ByteArray} {ns : List Nd} {n : Nd} (h : n ∈ low k ns) : Lt n.e.key k := by
  unfold low at h
  induction ns with
  | nil => simp at h
  | cons m r ih =>
    rw [List.takeWhile_cons] at h
    split at h
    · rename_i hm
      rcases List.mem_cons.1 h with rfl | h
      · simpa using hm
      · exact ih h
    · simp at h
/-- The nodes are as they should be. -/
structure TwG (lb : Nat) (ns : List Nd) : Prop where
  nodup : (lb :: ns.map Nd.b).Nodup
  hs : ∀ n ∈ ns, 1 ≤ n.h ∧ n.h ≤ 4
  ris : Ris (ns.map Nd.e)
theorem hig_ge {lb : Nat} {k : ByteArray} {ns : List Nd} (g : TwG lb ns) {n : Nd} (h : n ∈ hig k ns) : ¬ Lt n.e.key k := by
  have hr : Ris ((hig k ns).map Nd.e) := by
    have h1 : ((hig k ns).map Nd.e).Sublist (ns.map Nd.e) := List.Sublist.map _ (List.dropWhile_suffix _).sublist
    exact List.Pairwise.sublist h1 g.ris
  cases hh : hig k ns with
  | nil => rw [hh] at h; simp at h
  | cons m r =>
    have hm : ¬ Lt m.e.key k := by
      have h3 : ns.dropWhile (fun n => decide (Lt n.e.key k)) = m :: r := hh
      have := List.head?_dropWhile_not (fun n : Nd => decide (Lt n.e.key k)) ns
      rw [h3] at this
      simpa using this
    rw [hh] at h hr
    rcases List.mem_cons.1 h with rfl | h
    · exact hm
    · intro hlt
      exact hm (Lt.trans (hr.head n.e (List.mem_map.2 ⟨n, h, rfl⟩)) hlt)
/-- The last one below a key, on a floor. -/
def pr (lb : Nat) (ns : List Nd) (k : ByteArray) (f : Nat) : Nat := lst lb (flo f (low k ns))
def ptr (o : Option Nat) : Value := .pointer (o.map fun b => ⟨b, 0, none⟩)
/-- What lies in memory. -/
structure Mem (w : World) (lb : Nat) (ns : List Nd) (L : Nat → Nat → Option Nat) (many : Int) : Prop where
  head : Blk w lb #[.string ⟨#[]⟩, .string ⟨#[]⟩, .bool false, ptr (L lb 0), ptr (L lb 1), ptr (L lb 2), ptr (L lb 3), .int .i64 many] 127
  node : ∀ n ∈ ns, Blk w n.b #[.string n.e.key, .string n.e.val, .bool n.e.gone, ptr (L n.b 0), ptr (L n.b 1), ptr (L n.b 2), ptr (L n.b 3)] 125
def Chn (L : Nat → Nat → Option Nat) (lb : Nat) (ns : List Nd) : Prop := ∀ f, f < 4 → LL (fun b => L b f) lb (flo f ns)

theorem Mem.ext {w w' : World} {lb : Nat} {ns : List Nd} {L : Nat → Nat → Option Nat} {many : Int} (h : Mem w lb ns L many) (hx : Ext w w') : Mem w' lb ns L many :=
  ⟨h.head.ext hx, fun n hn => (h.node n hn).ext hx⟩
/-- The links of whoever has some: the head, or a node. -/
theorem Mem.link {w : World} {lb : Nat} {ns : List Nd} {L : Nat → Nat → Option Nat} {many : Int} (h : Mem w lb ns L many) {a f : Nat} (ha : a ∈ lb :: ns.map Nd.b) (hf : f < 4) : w.cell? ⟨a, 3 + f, none⟩ = some (ptr (L a f)) ∧ w.frozen? ⟨a, 3 + f, none⟩ = false ∧ a < w.heap.size := by
  rcases (show f = 0 ∨ f = 1 ∨ f = 2 ∨ f = 3 by omega) with rfl | rfl | rfl | rfl <;>
  · rcases List.mem_cons.1 ha with rfl | ha
    · exact ⟨by rw [h.head.cell]; rfl, h.head.free _, h.head.lt⟩
    · obtain ⟨n, hn, rfl⟩ := List.mem_map.1 ha
      exact ⟨by rw [(h.node n hn).cell]; rfl, (h.node n hn).free _, (h.node n hn).lt⟩
/-- A link is laid anew. -/
def setL (L : Nat → Nat → Option Nat) (a f : Nat) (o : Option Nat) : Nat → Nat → Option Nat := fun b g => if b = a ∧ g = f then o else L b g
theorem Mem.set {w : World} {lb : Nat} {ns : List Nd} {L : Nat → Nat → Option Nat} {many : Int} (h : Mem w lb ns L many) (hn : (lb :: ns.map Nd.b).Nodup) {a f : Nat} (hf : f < 4) (ha : a ∈ lb :: ns.map Nd.b) (o : Option Nat) :
    Mem (w.setCell ⟨a, 3 + f, none⟩ (ptr o)) lb ns (setL L a f o) many := by
  have hn' := List.nodup_cons.1 hn
  refine ⟨?_, fun n hnn => ?_⟩
  · by_cases hl : lb = a
    · subst hl
      have := h.head.set (3 + f) (ptr o)
      rcases (show f = 0 ∨ f = 1 ∨ f = 2 ∨ f = 3 by omega) with rfl | rfl | rfl | rfl <;> simpa [setL] using this
    · have := h.head.other (a := ⟨a, 3 + f, none⟩) hl (ptr o)
      simpa [setL, hl] using this
  · by_cases hl : n.b = a
    · subst hl
      have := (h.node n hnn).set (3 + f) (ptr o)
      rcases (show f = 0 ∨ f = 1 ∨ f = 2 ∨ f = 3 by omega) with rfl | rfl | rfl | rfl <;> simpa [setL] using this
    · have := (h.node n hnn).other (a := ⟨a, 3 + f, none⟩) hl (ptr o)
      simpa [setL, hl] using this
end Go.Proofs.YtkibgflbidkalaaDoor

/- Towers: before. -/
namespace Go.Proofs.YtkibgflbidkalaaDoor
open Go.RowKit

theorem Tryd.results73 : Tryd.f73.results = #[.cell 4 123] := by kernel_rfl
/-- The path behind the floors from k on. -/
def pc (lb : Nat) (ns : List Nd) (key : ByteArray) (k i : Nat) : Value := if k ≤ i then ptr (some (pr lb ns key i)) else ptr none
def pathC (lb : Nat) (ns : List Nd) (key : ByteArray) (k : Nat) : Array Value := #[pc lb ns key k 0, pc lb ns key k 1, pc lb ns key k 2, pc lb ns key k 3]
def prk (lb : Nat) (ns : List Nd) (key : ByteArray) (k : Nat) : Nat := if k = 4 then lb else pr lb ns key k
/-- Where a walk on a floor stands. -/
structure AtG (lb : Nat) (ns : List Nd) (key : ByteArray) (f a : Nat) (rest : List Nat) : Prop where
  ex : ∃ p, flo f (low key ns) = p ++ rest ∧ a = lst lb p
theorem atG_start (lb : Nat) (ns : List Nd) (key : ByteArray) (f : Nat) : ∃ rest, AtG lb ns key f (prk lb ns key (f + 1)) rest := by
  unfold prk
  split
  · exact ⟨_, ⟨[], rfl, rfl⟩⟩
  · obtain ⟨p, rest, h1, h2⟩ := flo_split f (low key ns) lb
    exact ⟨rest, ⟨p, h1, h2⟩⟩
theorem AtG.step {lb : Nat} {ns : List Nd} {key : ByteArray} {f a c : Nat} {rest : List Nat} (h : AtG lb ns key f a (c :: rest)) : AtG lb ns key f c rest := by
  obtain ⟨p, h1, _⟩ := h.ex
  exact ⟨p ++ [c], by rw [h1]; simp, by rw [lst_app]⟩
theorem AtG.done {lb : Nat} {ns : List Nd} {key : ByteArray} {f a : Nat} (h : AtG lb ns key f a []) : a = pr lb ns key f := by
  obtain ⟨p, h1, h2⟩ := h.ex
  rw [List.append_nil] at h1
  rw [h2, pr, h1]
theorem AtG.mem {lb : Nat} {ns : List Nd} {key : ByteArray} {f a : Nat} {rest : List Nat} (h : AtG lb ns key f a rest) : a ∈ lb :: ns.map Nd.b := by
  obtain ⟨p, h1, rfl⟩ := h.ex
  rcases List.mem_cons.1 (lst_mem lb p) with h | h
  · rw [h]; simp
  · refine List.mem_cons_of_mem _ ?_
    obtain ⟨n, hn, hb, _⟩ := flo_mem (ns := low key ns) (f := f) (c := lst lb p) (by rw [h1]; simp [h])
    exact List.mem_map.2 ⟨n, by rw [← low_hig key ns]; exact List.mem_append_left _ hn, hb⟩
theorem AtG.link {lb : Nat} {ns : List Nd} {key : ByteArray} {f a : Nat} {rest : List Nat} {L : Nat → Nat → Option Nat} (h : AtG lb ns key f a rest) (hC : Chn L lb ns) (hf : f < 4) : L a f = (rest ++ flo f (hig key ns)).head? := by
  obtain ⟨p, h1, rfl⟩ := h.ex
  have h2 := hC f hf
  rw [← low_hig key ns, flo_app, h1, List.append_assoc] at h2
  exact h2.to.head
theorem AtG.next {lb : Nat} {ns : List Nd} {key : ByteArray} {f a c : Nat} {rest : List Nat} (h : AtG lb ns key f a (c :: rest)) : ∃ n ∈ ns, n.b = c ∧ Lt n.e.key key := by
  obtain ⟨p, h1, _⟩ := h.ex
  obtain ⟨n, hn, hb, _⟩ := flo_mem (ns := low key ns) (f := f) (c := c) (by rw [h1]; simp)
  exact ⟨n, by rw [← low_hig key ns]; exact List.mem_append_left _ hn, hb, low_lt hn⟩
theorem hig_next {lb : Nat} {ns : List Nd} (g : TwG lb ns) {key : ByteArray} {f c : Nat} {r : List Nat} (h : flo f (hig key ns) = c :: r) : ∃ n ∈ ns, n.b = c ∧ ¬ Lt n.e.key key := by
  obtain ⟨n, hn, hb, _⟩ := flo_mem (ns := hig key ns) (f := f) (c := c) (by rw [h]; simp)
  exact ⟨n, by rw [← low_hig key ns]; exact List.mem_append_right _ hn, hb, hig_ge g hn⟩

theorem pathC_set (lb : Nat) (ns : List Nd) (key : ByteArray) (k : Nat) (hk : k < 4) : (pathC lb ns key (k + 1)).setIfInBounds k (ptr (some (pr lb ns key k))) = pathC lb ns key k := by
  rcases (show k = 0 ∨ k = 1 ∨ k = 2 ∨ k = 3 by omega) with rfl | rfl | rfl | rfl <;> simp [pathC, pc]
theorem pathC_get (lb : Nat) (ns : List Nd) (key : ByteArray) (j k : Nat) (hk : k < 4) : ∃ v, (pathC lb ns key j)[k]? = some v := by
  rcases (show k = 0 ∨ k = 1 ∨ k = 2 ∨ k = 3 by omega) with rfl | rfl | rfl | rfl <;> exact ⟨_, rfl⟩

set_option maxRecDepth 20000 in
set_option maxHeartbeats 2000000 in
theorem before_any (lb : Nat) (ns : List Nd) (L : Nat → Nat → Option Nat) (many : Int) (key : ByteArray) (w : World) (g : TwG lb ns) (hC : Chn L lb ns) (hM : Mem w lb ns L many) :
    Calls Tryd.prog 73 #[.pointer (some ⟨lb, 0, none⟩), .string key] w fun e w' => e = .returned (.agg (pathC lb ns key 0)) ∧ Ext w w' := by
  go_enter Tryd.func73, Tryd.ntmps73
  have hlb := hM.head.lt
  go_wp2
  have HX : Hid (Ext w ((w.alloc (.cells #[.pointer none, .pointer none, .pointer none, .pointer none] 123)).alloc (.cells #[.pointer none, .pointer none, .pointer none, .pointer none] 123))) := ((Ext.refl _).alloc _).alloc _
  have HB : Hid (Blk ((w.alloc (.cells #[.pointer none, .pointer none, .pointer none, .pointer none] 123)).alloc (.cells #[.pointer none, .pointer none, .pointer none, .pointer none] 123)) (w.heap.size + 1) (pathC lb ns key 4) 123) := Blk.new' _ _ _ (by simp)
  have HR : Hid (Blk ((w.alloc (.cells #[.pointer none, .pointer none, .pointer none, .pointer none] 123)).alloc (.cells #[.pointer none, .pointer none, .pointer none, .pointer none] 123)) w.heap.size #[.pointer none, .pointer none, .pointer none, .pointer none] 123) := (Blk.new _ _ _).alloc _
  go_loopw [6, 7] (fun a f wr => ∃ k : Nat, k ≤ 4 ∧ f = .int .i64 ((k : Int) - 1) ∧ a = ptr (some (prk lb ns key k)) ∧ Blk wr (w.heap.size + 1) (pathC lb ns key k) 123 ∧ Blk wr w.heap.size #[.pointer none, .pointer none, .pointer none, .pointer none] 123 ∧ Ext w wr) (fun _ f _ => (intOf f + 1).toNat)
  case atStart => exact ⟨4, Nat.le_refl _, rfl, rfl, HB.out, HR.out, HX.out⟩
  case round =>
    clear HB HR HX
    obtain ⟨k, hk, rfl, rfl, hB, hR, hx⟩ := hrel
    have hMr := hM.ext hx
    cases k with
    | zero =>
      have c0 := hB.cell 0
      have c1 := hB.cell 1
      have c2 := hB.cell 2
      have c3 := hB.cell 3
      have r0 := hR.cell 0
      have r1 := hR.cell 1
      have r2 := hR.cell 2
      have r3 := hR.cell 3
      have f0 := hR.free 0
      have f1 := hR.free 1
      have f2 := hR.free 2
      have f3 := hR.free 3
      simp [pathC, pc, ptr] at c0 c1 c2 c3 r0 r1 r2 r3
      have hl1 := hB.lt
      have hl2 := hR.lt
      clear hM hMr hC g
      go_wp2
      refine bodyPost_ret (v := .agg (pathC lb ns key 0)) (by simp [results, go_sem, pathC, pc, ptr, r0, r1, r2, r3]) rfl ⟨rfl, ?_⟩
      refine Ext.set (Ext.set (Ext.set (Ext.set hx ?_ _) ?_ _) ?_ _) ?_ _ <;> exact Nat.le_refl _
    | succ k =>
      obtain ⟨rest, hA⟩ := atG_start lb ns key k
      have hk1 : ((k + 1 : Nat) : Int) - 1 = (k : Int) := by omega
      rw [hk1]
      generalize prk lb ns key (k + 1) = a0 at *
      have hk4 : k < 4 := by omega
      go_wp2
      obtain ⟨wo, hwo⟩ : ∃ wo : World, wo = wr := ⟨_, rfl⟩
      rw [← hwo] at hB hR hx hMr ⊢
      clear hwo
      go_loopg [6] rest.length (fun gm a wi => ∃ (c : Nat) (rest : List Nat), gm = rest.length ∧ a = ptr (some c) ∧ AtG lb ns key k c rest ∧ wi = wo)
      case atStart => exact ⟨a0, rest, rfl, rfl, hA, rfl⟩
      case round =>
        clear hA
        obtain ⟨c, rest, rfl, rfl, hA, rfl⟩ := hrel
        have hl := hA.link hC hk4
        obtain ⟨m1, m2, m3⟩ := hMr.link hA.mem hk4
        rw [hl] at m1
        have hk0 : (0 : Int) ≤ (k : Int) := by omega
        have hk5 : (k : Int) < 4 := by omega
        have HA : Hid (AtG lb ns key k c rest) := hA
        have HC : Hid (Chn L lb ns) := hC
        have HG : Hid (TwG lb ns) := g
        have HM : Hid (Mem w lb ns L many ∧ Mem wr lb ns L many) := ⟨hM, hMr⟩
        clear hA hC g hM hl
        cases rest with
        | cons c2 r =>
          obtain ⟨n, hn, hnb, hlt⟩ := HA.out.next
          have hnk := (hMr.node n hn).cell 0
          rw [hnb] at hnk
          simp at hnk
          simp [ptr] at m1
          have hle : Op.bytesLess n.e.key.toList key.toList = true := hlt
          clear hMr hlt
          simp only [ptr, Option.map_some]
          go_wp2
          go_roundg r.length
          case measure => simp
          case rel => exact ⟨c2, r, rfl, rfl, HA.out.step, rfl⟩
        | nil =>
          have hdone := HA.out.done
          obtain ⟨old, hold⟩ := pathC_get lb ns key (k + 1) k hk4
          have p1 : wr.cell? ⟨w.heap.size + 1, k, none⟩ = some old := by rw [hB.cell]; exact hold
          have p2 := hB.free k
          have p3 := hB.lt
          have hpr : Hid (prk lb ns key k = c) := by unfold Hid prk; rw [if_neg (by omega), hdone]
          have hB2 : Hid (Blk (wr.setCell ⟨w.heap.size + 1, k, none⟩ (.pointer (some ⟨c, 0, none⟩))) (w.heap.size + 1) (pathC lb ns key k) 123) := by
            have := hB.set k (ptr (some (pr lb ns key k)))
            rw [pathC_set lb ns key k hk4, ← hdone] at this
            exact this
          have hR2 : Hid (Blk (wr.setCell ⟨w.heap.size + 1, k, none⟩ (.pointer (some ⟨c, 0, none⟩))) w.heap.size #[.pointer none, .pointer none, .pointer none, .pointer none] 123) := hR.other (by simp) _
          have hx2 : Hid (Ext w (wr.setCell ⟨w.heap.size + 1, k, none⟩ (.pointer (some ⟨c, 0, none⟩)))) := hx.set (by simp) _
          have hfl : ∃ q, flo k (hig key ns) = q := ⟨_, rfl⟩
          obtain ⟨q, hq⟩ := hfl
          rw [hq, List.nil_append] at m1
          clear hdone hold hB hR hx
          cases q with
          | nil =>
            simp [ptr] at m1
            clear hMr hq
            simp only [ptr, Option.map_some]
            go_wp2
            go_roundw
            case rel => exact ⟨k, by omega, rfl, by rw [hpr.out]; rfl, hB2.out, hR2.out, hx2.out⟩
            case measure => simp [intOf]
          | cons c2 r =>
            obtain ⟨n, hn, hnb, hlt⟩ := hig_next HG.out hq
            have hnk := (hMr.node n hn).cell 0
            rw [hnb] at hnk
            simp at hnk
            simp [ptr] at m1
            have hle : Op.bytesLess n.e.key.toList key.toList = false := Lt.nless hlt
            clear hMr hlt hq
            simp only [ptr, Option.map_some]
            go_wp2
            go_roundw
            case rel => exact ⟨k, by omega, rfl, by rw [hpr.out]; rfl, hB2.out, hR2.out, hx2.out⟩
            case measure => simp [intOf]
end Go.Proofs.YtkibgflbidkalaaDoor

/- Towers: an entry is dropped. -/
namespace Go.Proofs.YtkibgflbidkalaaDoor
open Go.RowKit

/-- Nothing but the blocks S has turned. -/
structure Kp (w w' : World) (S : List Nat) : Prop where
  os : w'.os = w.os
  tape : w'.tape = w.tape
  output : w'.output = w.output
  size : w.heap.size ≤ w'.heap.size
  blk : ∀ k, k < w.heap.size → k ∉ S → w'.heap[k]? = w.heap[k]?
theorem Kp.refl (w : World) (S : List Nat) : Kp w w S := ⟨rfl, rfl, rfl, Nat.le_refl _, fun _ _ _ => rfl⟩
theorem Kp.trans {a b c : World} {S : List Nat} (h : Kp a b S) (k : Kp b c S) : Kp a c S :=
  ⟨k.os.trans h.os, k.tape.trans h.tape, k.output.trans h.output, Nat.le_trans h.size k.size, fun i hi hs => (k.blk i (Nat.lt_of_lt_of_le hi h.size) hs).trans (h.blk i hi hs)⟩
theorem Kp.ofExt {a b : World} (h : Ext a b) (S : List Nat) : Kp a b S := ⟨h.below.os, h.below.tape, h.below.output, h.size, fun k hk _ => h.below.block k hk⟩
theorem Kp.mono {a b : World} {S T : List Nat} (h : Kp a b S) (hs : ∀ x ∈ S, x ∈ T) : Kp a b T := ⟨h.os, h.tape, h.output, h.size, fun k hk hn => h.blk k hk fun hh => hn (hs k hh)⟩
theorem Kp.set (w : World) {b o : Nat} {S : List Nat} (hb : b ∈ S) (v : Value) : Kp w (w.setCell ⟨b, o, none⟩ v) S :=
  ⟨rfl, rfl, rfl, by simp, fun k _ hn => Below.heap_setCell w ⟨b, o, none⟩ v k (fun e => hn (by rw [e]; exact hb))⟩
theorem Kp.ext {W w w' : World} {S : List Nat} (hx : Ext W w) (h : Kp w w' S) (hs : ∀ x ∈ S, W.heap.size ≤ x) : Ext W w' :=
  ⟨⟨h.os.trans hx.below.os, h.tape.trans hx.below.tape, h.output.trans hx.below.output, Nat.le_trans hx.size h.size, fun k hk => (h.blk k (Nat.lt_of_lt_of_le hk hx.size) (fun hh => by have := hs k hh; omega)).trans (hx.below.block k hk)⟩⟩
theorem Kp.Blk {w w' : World} {S : List Nat} (h : Kp w w' S) {b : Nat} {cs : Array Value} {t : TypeId} (hb : Blk w b cs t) (hn : b ∉ S) : Blk w' b cs t := ⟨by rw [h.blk b hb.lt hn]; exact hb.blk⟩

theorem Mem.many {w : World} {lb : Nat} {ns : List Nd} {L : Nat → Nat → Option Nat} {many : Int} (h : Mem w lb ns L many) (hn : (lb :: ns.map Nd.b).Nodup) (m : Int) : Mem (w.setCell ⟨lb, 7, none⟩ (.int .i64 m)) lb ns L m := by
  refine ⟨by simpa using h.head.set 7 (.int .i64 m), fun n hnn => (h.node n hnn).other (a := ⟨lb, 7, none⟩) ?_ _⟩
  intro e
  exact (List.nodup_cons.1 hn).1 (List.mem_map.2 ⟨n, hnn, e⟩)
theorem Mem.sub {w : World} {lb : Nat} {ns ms : List Nd} {L : Nat → Nat → Option Nat} {many : Int} (h : Mem w lb ns L many) (hs : ∀ n ∈ ms, n ∈ ns) : Mem w lb ms L many := ⟨h.head, fun n hn => h.node n (hs n hn)⟩

/-- The floors below j are those of ms already. -/
def ChnJ (L : Nat → Nat → Option Nat) (lb : Nat) (ns ms : List Nd) (j : Nat) : Prop := ∀ f, f < 4 → LL (fun b => L b f) lb (if f < j then flo f ms else flo f ns)
theorem ChnJ.zero {L : Nat → Nat → Option Nat} {lb : Nat} {ns ms : List Nd} (h : Chn L lb ns) : ChnJ L lb ns ms 0 := fun f hf => by simpa using h f hf
theorem ChnJ.done {L : Nat → Nat → Option Nat} {lb : Nat} {ns ms : List Nd} (h : ChnJ L lb ns ms 4) : Chn L lb ms := fun f hf => by have := h f hf; rwa [if_pos hf] at this
theorem ChnJ.at {L : Nat → Nat → Option Nat} {lb : Nat} {ns ms : List Nd} {j : Nat} (h : ChnJ L lb ns ms j) (hj : j < 4) : LL (fun b => L b j) lb (flo j ns) := by have := h j hj; rwa [if_neg (by omega)] at this
/-- A floor is laid anew. -/
theorem ChnJ.next {L M : Nat → Nat → Option Nat} {lb : Nat} {ns ms : List Nd} {j : Nat} (h : ChnJ L lb ns ms j) (ho : ∀ b g, g ≠ j → M b g = L b g) (hj : LL (fun b => M b j) lb (flo j ms)) : ChnJ M lb ns ms (j + 1) := by
  intro f hf
  by_cases e : f = j
  · subst e; rw [if_pos (by omega)]; exact hj
  · have h1 := h f hf
    have h2 : (fun b => M b f) = fun b => L b f := by funext b; exact ho b f e
    rw [h2]
    by_cases hlt : f < j
    · rw [if_pos (by omega)]; rwa [if_pos hlt] at h1
    · rw [if_neg (by omega)]; rwa [if_neg hlt] at h1
theorem nodup_flo {lb : Nat} {ns : List Nd} (h : (lb :: ns.map Nd.b).Nodup) (f : Nat) : (lb :: flo f ns).Nodup := List.Pairwise.sublist (List.Sublist.cons_cons lb flo_sub) h

section
variable {L : Nat → Nat → Option Nat} {lb : Nat} {lo r ms : List Nd} {n0 : Nd} {j : Nat}
theorem del_yes (hn : (lb :: (lo ++ n0 :: r).map Nd.b).Nodup) (h : ChnJ L lb (lo ++ n0 :: r) (lo ++ r) j) (hj : j < 4) (hh : j < n0.h) :
    L (lst lb (flo j lo)) j = some n0.b ∧ ChnJ (setL L (lst lb (flo j lo)) j (L n0.b j)) lb (lo ++ n0 :: r) (lo ++ r) (j + 1) := by
  have h1 := h.at hj
  have hnf := nodup_flo hn j
  have e1 : flo j (lo ++ n0 :: r) = flo j lo ++ n0.b :: flo j r := by rw [flo_app, flo_cons, if_pos hh]
  rw [e1] at h1 hnf
  have h2 := h1.to
  refine ⟨h2.1, h.next (fun b g hg => by simp [setL, hg]) ?_⟩
  rw [flo_app]
  refine LL.upd h1 (List.Pairwise.sublist (by simp) hnf) (fun c _ hc => by simp [setL, hc]) ?_
  have h3 : LL (fun b => L b j) n0.b (flo j r) := h2.2
  have hd : ∀ c ∈ flo j r, c ≠ lst lb (flo j lo) := by
    intro c hc e
    have hm := lst_mem lb (flo j lo)
    have h4 : (lb :: flo j lo ++ n0.b :: flo j r).Nodup := hnf
    have := (List.nodup_append.1 h4).2.2 _ hm c (by simp [hc])
    exact this e.symm
  cases hr : flo j r with
  | nil => rw [hr] at h3; show setL L _ j _ _ j = none; simp [setL]; exact h3
  | cons d q =>
    rw [hr] at h3 hd
    refine ⟨by show setL L _ j _ _ j = some d; simp [setL]; exact h3.1, h3.2.congr fun c hc => ?_⟩
    show setL L _ j _ c j = L c j
    simp [setL, hd c hc]
theorem del_no (hn : (lb :: (lo ++ n0 :: r).map Nd.b).Nodup) (h : ChnJ L lb (lo ++ n0 :: r) (lo ++ r) j) (hj : j < 4) (hh : ¬ j < n0.h) :
    L (lst lb (flo j lo)) j = (flo j r).head? ∧ (∀ c ∈ flo j r, c ≠ n0.b) ∧ ChnJ L lb (lo ++ n0 :: r) (lo ++ r) (j + 1) := by
  have h1 := h.at hj
  have e1 : flo j (lo ++ n0 :: r) = flo j (lo ++ r) := by rw [flo_app, flo_cons, if_neg hh, flo_app]
  rw [e1] at h1
  refine ⟨?_, ?_, h.next (fun _ _ _ => rfl) h1⟩
  · rw [flo_app] at h1
    exact h1.to.head
  · intro c hm e
    subst e
    obtain ⟨m, hm1, hm2, _⟩ := flo_mem hm
    have h4 := (List.nodup_cons.1 hn).2
    rw [List.map_append, List.map_cons] at h4
    exact (List.nodup_cons.1 (List.nodup_append.1 h4).2.1).1 (List.mem_map.2 ⟨m, hm1, hm2⟩)
theorem ins_step (hn : (lb :: (lo ++ n0 :: r).map Nd.b).Nodup) (h : ChnJ L lb (lo ++ r) (lo ++ n0 :: r) j) (hj : j < 4) (hh : j < n0.h) :
    ChnJ (setL (setL L n0.b j (L (lst lb (flo j lo)) j)) (lst lb (flo j lo)) j (some n0.b)) lb (lo ++ r) (lo ++ n0 :: r) (j + 1) := by
  have h1 := h.at hj
  have hnf := nodup_flo hn j
  have e1 : flo j (lo ++ n0 :: r) = flo j lo ++ n0.b :: flo j r := by rw [flo_app, flo_cons, if_pos hh]
  rw [e1] at hnf
  rw [flo_app] at h1
  refine h.next (fun b g hg => by simp [setL, hg]) ?_
  rw [e1]
  have h4 : (lb :: flo j lo ++ n0.b :: flo j r).Nodup := hnf
  have hsep := (List.nodup_append.1 h4).2.2
  have hnb : ∀ c ∈ lb :: flo j lo, c ≠ n0.b := fun c hc => hsep c hc _ (by simp)
  refine LL.upd h1 (List.Pairwise.sublist (by simp) hnf) (fun c hc hcc => by simp [setL, hcc, hnb c hc]) ?_
  have h2 := h1.to
  refine ⟨by simp [setL], ?_⟩
  have hne : n0.b ≠ lst lb (flo j lo) := fun e => hnb _ (lst_mem lb (flo j lo)) e.symm
  have hd : ∀ c ∈ flo j r, c ≠ lst lb (flo j lo) ∧ c ≠ n0.b := by
    intro c hc
    refine ⟨fun e => hsep _ (lst_mem lb (flo j lo)) c (by simp [hc]) e.symm, fun e => ?_⟩
    subst e
    exact (List.nodup_cons.1 (List.nodup_append.1 h4).2.1).1 hc
  cases hr : flo j r with
  | nil => rw [hr] at h2; show setL _ _ j _ n0.b j = none; simp [setL, hne]; exact h2
  | cons d q =>
    rw [hr] at h2 hd
    refine ⟨by show setL _ _ j _ n0.b j = some d; simp [setL, hne]; exact h2.1, h2.2.congr fun c hc => ?_⟩
    show setL _ _ j _ c j = L c j
    simp [setL, hd c hc]
end
end Go.Proofs.YtkibgflbidkalaaDoor

/- Towers: drop. -/
namespace Go.Proofs.YtkibgflbidkalaaDoor
open Go.RowKit

/-- The nodes without that of a key. -/
def del (key : ByteArray) (ns : List Nd) : List Nd := match hig key ns with
  | n0 :: r => if n0.e.key = key then low key ns ++ r else ns
  | [] => ns
def pathV (lb : Nat) (ns : List Nd) (key : ByteArray) : Value := .agg #[.pointer (some ⟨pr lb ns key 0, 0, none⟩), .pointer (some ⟨pr lb ns key 1, 0, none⟩), .pointer (some ⟨pr lb ns key 2, 0, none⟩), .pointer (some ⟨pr lb ns key 3, 0, none⟩)]
theorem pathV_eq (lb : Nat) (ns : List Nd) (key : ByteArray) : Value.agg (pathC lb ns key 0) = pathV lb ns key := by simp [pathV, pathC, pc, ptr]
theorem path_ix (lb : Nat) (ns : List Nd) (key : ByteArray) (k : Nat) (hk : k < 4) (W : World) : (Instr.index 123 (pathV lb ns key) (.int .i64 (k : Int))).run Tryd.prog W = .ok (.pointer (some ⟨pr lb ns key k, 0, none⟩)) W := by
  rcases (show k = 0 ∨ k = 1 ∨ k = 2 ∨ k = 3 by omega) with rfl | rfl | rfl | rfl <;> kernel_rfl
theorem pr_mem (lb : Nat) (ns : List Nd) (key : ByteArray) (f : Nat) : pr lb ns key f ∈ lb :: ns.map Nd.b := by
  have : AtG lb ns key f (pr lb ns key f) [] := ⟨_, (List.append_nil _).symm, rfl⟩
  exact this.mem
theorem pr_link {lb : Nat} {ns : List Nd} {key : ByteArray} {f : Nat} {L : Nat → Nat → Option Nat} (hC : Chn L lb ns) (hf : f < 4) : L (pr lb ns key f) f = (flo f (hig key ns)).head? := by
  have : AtG lb ns key f (pr lb ns key f) [] := ⟨_, (List.append_nil _).symm, rfl⟩
  exact this.link hC hf

theorem cell_far (W : World) {a b : Nat} (h : b ≠ a) (i j : Nat) (v : Value) : (W.setCell ⟨a, i, none⟩ v).cell? ⟨b, j, none⟩ = W.cell? ⟨b, j, none⟩ := by
  have := Below.heap_setCell W ⟨a, i, none⟩ v b h
  simp [World.cell?, this]
theorem pr_low (lb : Nat) (ns : List Nd) (key : ByteArray) (f : Nat) : pr lb ns key f ∈ lb :: (low key ns).map Nd.b := by
  rcases List.mem_cons.1 (lst_mem lb (flo f (low key ns))) with h | h
  · rw [pr, h]; simp
  · exact List.mem_cons_of_mem _ (flo_sub.subset h)
theorem Tryd.nodeInfo : ∃ j : TypeInfo, Tryd.prog.info? 125 = some j ∧ j.size ≠ 0 := by
  have h : (Tryd.prog.info? 125).map (fun i => i.size) = some 7 := by kernel_rfl
  obtain ⟨j, hj, hs⟩ := Option.map_eq_some_iff.1 h
  exact ⟨j, hj, by omega⟩
theorem eq_same (W : World) (b : Nat) : (binOp .eql 122 (.pointer (some ⟨b, 0, none⟩)) (.pointer (some ⟨b, 0, none⟩))).run Tryd.prog W = .ok (.bool true) W := by
  obtain ⟨j, hj, _⟩ := Tryd.nodeInfo
  exact run_eql_ptr_same W _ Tryd.underlying122 hj
theorem eq_other (W : World) (a b : Nat) {ca cb : Array Value} {ta tb : TypeId} (ha : Blk W a ca ta) (hb : Blk W b cb tb) (hne : a ≠ b) : (binOp .eql 122 (.pointer (some ⟨a, 0, none⟩)) (.pointer (some ⟨b, 0, none⟩))).run Tryd.prog W = .ok (.bool false) W := by
  obtain ⟨j, hj, hz⟩ := Tryd.nodeInfo
  exact run_eql_ptr_other W Tryd.underlying122 hj hz (fun e => hne (congrArg Addr.block e)) ha.blk hb.blk
theorem eq_nil (W : World) (b : Nat) : (binOp .eql 122 (.pointer none) (.pointer (some ⟨b, 0, none⟩))).run Tryd.prog W = .ok (.bool false) W := by
  have h : ∀ d : Nat, (Op.equalIn (d + 1) 122 (.pointer none) (.pointer (some ⟨b, 0, none⟩))).run Tryd.prog W = .ok false W := fun d => by
    simp [Op.equalIn, run_underlying Tryd.underlying122]
  simp only [binOp]
  simp [Op.equal, Op.maxDepth, h 9999]

set_option maxRecDepth 20000 in
set_option maxHeartbeats 2000000 in
theorem drop_not (lb : Nat) (ns : List Nd) (L : Nat → Nat → Option Nat) (many : Int) (key : ByteArray) (w : World) (hC : Chn L lb ns) (g : TwG lb ns) (hM : Mem w lb ns L many) (hno : ∀ n r, hig key ns = n :: r → n.e.key ≠ key) :
    Calls Tryd.prog 74 #[.pointer (some ⟨lb, 0, none⟩), pathV lb ns key, .string key] w fun e w' => e = .returned (.tuple #[]) ∧ Ext w w' := by
  obtain ⟨m1, m2, m3⟩ := hM.link (pr_mem lb ns key 0) (show 0 < 4 by omega)
  rw [pr_link hC (by omega)] at m1
  have hz : flo 0 (hig key ns) = (hig key ns).map Nd.b := flo_zero fun n hn => (g.hs n (by rw [← low_hig key ns]; exact List.mem_append_right _ hn)).1
  rw [hz] at m1
  have hbn : ¬ pr lb ns key 0 = w.heap.size := by omega
  have mem : ∀ n ∈ hig key ns, n ∈ ns := fun n hn => by rw [← low_hig key ns]; exact List.mem_append_right _ hn
  unfold pathV
  generalize pr lb ns key 0 = p0 at *
  generalize pr lb ns key 1 = p1 at *
  generalize pr lb ns key 2 = p2 at *
  generalize pr lb ns key 3 = p3 at *
  cases hh : hig key ns with
  | nil =>
    rw [hh] at m1
    simp [ptr] at m1
    clear hC g hM hno hz mem hh
    go_enter Tryd.func74, Tryd.ntmps74
    go_wp2
    (try simp only [Exit.inBlock, Exit.then])
    refine bodyPost_ret (results_none rfl _ _ _) rfl ?_
    exact ⟨rfl, (Ext.refl _).alloc _⟩
  | cons n r =>
    have hk := hno n r hh
    rw [hh] at m1
    simp [ptr] at m1
    have hnk := (hM.node n (mem n (by rw [hh]; simp))).cell 0
    simp at hnk
    have hbe : (n.e.key.toList == key.toList) = false := beq_ne hk
    have hnl := (hM.node n (mem n (by rw [hh]; simp))).lt
    have hnn : ¬ n.b = w.heap.size := by omega
    clear hC g hM hno hz mem hh hk
    go_enter Tryd.func74, Tryd.ntmps74
    go_wp2
    (try simp only [Exit.inBlock, Exit.then])
    refine bodyPost_ret (results_none rfl _ _ _) rfl ?_
    exact ⟨rfl, (Ext.refl _).alloc _⟩

set_option maxRecDepth 20000 in
set_option maxHeartbeats 4000000 in
theorem drop_yes (lb : Nat) (ns : List Nd) (L : Nat → Nat → Option Nat) (key : ByteArray) (w : World) (hC : Chn L lb ns) (g : TwG lb ns) (hM : Mem w lb ns L (ns.length : Int)) (hsm : ns.length ≤ 1000) (n0 : Nd) (r : List Nd) (hh : hig key ns = n0 :: r) (hk : n0.e.key = key) :
    Calls Tryd.prog 74 #[.pointer (some ⟨lb, 0, none⟩), pathV lb ns key, .string key] w fun e w' => e = .returned (.tuple #[]) ∧ ∃ M, Chn M lb (low key ns ++ r) ∧ Mem w' lb (low key ns ++ r) M ((low key ns ++ r).length : Int) ∧ Kp w w' (lb :: ns.map Nd.b) := by
  have hns : low key ns ++ n0 :: r = ns := by rw [← hh]; exact low_hig key ns
  obtain ⟨m1, m2, m3⟩ := hM.link (pr_mem lb ns key 0) (show 0 < 4 by omega)
  rw [pr_link hC (by omega)] at m1
  have hn0 : n0 ∈ ns := by rw [← hns]; simp
  have hz : (flo 0 (hig key ns)).head? = some n0.b := by
    rw [hh, flo_cons, if_pos (by have := (g.hs n0 hn0).1; omega)]; rfl
  rw [hz] at m1
  simp [ptr] at m1
  have hbn : ¬ pr lb ns key 0 = w.heap.size := by omega
  have hnk := (hM.node n0 hn0).cell 0
  simp at hnk
  rw [hk] at hnk
  have hnl := (hM.node n0 hn0).lt
  have hnn : ¬ n0.b = w.heap.size := by omega
  have HX : Hid (∀ o, Ext w (w.alloc o)) := fun o => (Ext.refl w).alloc o
  have HP : Hid (∀ (k : Nat) (W : World), k < 4 → (Instr.index 123 (pathV lb ns key) (.int .i64 (k : Int))).run Tryd.prog W = .ok (.pointer (some ⟨pr lb ns key k, 0, none⟩)) W) := fun k W hk => path_ix lb ns key k hk W
  unfold pathV at *
  have hbe : (key.toList == key.toList) = true := by simp
  go_enter Tryd.func74, Tryd.ntmps74
  go_wp2
  have hJ0 : ChnJ L lb (low key ns ++ n0 :: r) (low key ns ++ r) 0 := ChnJ.zero (by rw [hns]; exact hC)
  have hM0 := hM.ext (HX.out (.cells #[.pointer (some ⟨pr lb ns key 0, 0, none⟩), .pointer (some ⟨pr lb ns key 1, 0, none⟩), .pointer (some ⟨pr lb ns key 2, 0, none⟩), .pointer (some ⟨pr lb ns key 3, 0, none⟩)] 123))
  have hK0 : Kp w (w.alloc (.cells #[.pointer (some ⟨pr lb ns key 0, 0, none⟩), .pointer (some ⟨pr lb ns key 1, 0, none⟩), .pointer (some ⟨pr lb ns key 2, 0, none⟩), .pointer (some ⟨pr lb ns key 3, 0, none⟩)] 123)) (lb :: ns.map Nd.b) := Kp.ofExt (HX.out _) _
  go_loopw [7, 8, 27] (fun _ _ i wr => ∃ (k : Nat) (M : Nat → Nat → Option Nat), k ≤ 4 ∧ i = .int .i64 k ∧ Mem wr lb ns M (ns.length : Int) ∧ ChnJ M lb (low key ns ++ n0 :: r) (low key ns ++ r) k ∧ Kp w wr (lb :: ns.map Nd.b)) (fun _ _ i _ => 4 - (intOf i).toNat)
  case atStart => exact ⟨0, L, by omega, rfl, hM0, hJ0, hK0⟩
  case round =>
    clear hM0 hJ0 hK0 m1 m2 hnk hM hC
    obtain ⟨k, M, hk4, rfl, hM, hJ, hK⟩ := hrel
    by_cases hlt : k < 4
    · have hix := fun W => HP.out k W hlt
      have hpm := pr_mem lb ns key k
      obtain ⟨a1, a2, a3⟩ := hM.link hpm hlt
      obtain ⟨b1, b2, b3⟩ := hM.link (a := n0.b) (by rw [← hns]; simp) hlt
      have hnd : (lb :: (low key ns ++ n0 :: r).map Nd.b).Nodup := by rw [hns]; exact g.nodup
      have hk0 : (0 : Int) ≤ (k : Int) := by omega
      have hk5 : (k : Int) < 4 := by omega
      by_cases hht : k < n0.h
      · obtain ⟨y1, y2⟩ := del_yes hnd hJ hlt hht
        have y1' : M (pr lb ns key k) k = some n0.b := y1
        rw [y1'] at a1
        simp [ptr] at a1
        have hM2 := hM.set g.nodup hlt hpm (M n0.b k)
        have hK2 := hK.trans (Kp.set wr (o := 3 + k) hpm (ptr (M n0.b k)))
        have y2' : ChnJ (setL M (pr lb ns key k) k (M n0.b k)) lb (low key ns ++ n0 :: r) (low key ns ++ r) (k + 1) := y2
        have HM2 : Hid (Mem (wr.setCell ⟨pr lb ns key k, 3 + k, none⟩ (ptr (M n0.b k))) lb ns (setL M (pr lb ns key k) k (M n0.b k)) (ns.length : Int)) := hM2
        have he := fun W => eq_same W n0.b
        have hne : n0.b ≠ pr lb ns key k := by
          intro e
          have h5 : (lb :: (low key ns).map Nd.b ++ n0.b :: r.map Nd.b).Nodup := by simpa using hnd
          exact (List.nodup_append.1 h5).2.2 _ (pr_low lb ns key k) n0.b (by simp) e.symm
        generalize M n0.b k = lnk at *
        clear hM hJ hK hM2
        unfold ptr at b1 HM2 hK2
        go_wp2
        go_region_held3 (fun w' => w'.cell? ⟨n0.b, 3 + k, none⟩ = some (.pointer (lnk.map fun b => ⟨b, 0, none⟩))) (first | (go_keep; done) | (show (wr.setCell _ _).cell? _ = _; rw [cell_far _ hne]; exact b1)) (fail)
        go_wp2
        go_roundw
        case rel => exact ⟨k + 1, _, by omega, by go_num, HM2.out.ext (by repeat (first | exact Ext.refl _ | refine Ext.drew ?_ | refine Ext.drewN ?_ _)), y2', hK2.trans (Kp.ofExt (by repeat (first | exact Ext.refl _ | refine Ext.drew ?_ | refine Ext.drewN ?_ _)) _)⟩
        case measure => simp [intOf]; omega
      · obtain ⟨y1, y2, y3⟩ := del_no hnd hJ hlt hht
        have y1' : M (pr lb ns key k) k = (flo k r).head? := y1
        rw [y1'] at a1
        have hfl : ∃ q, flo k r = q := ⟨_, rfl⟩
        obtain ⟨q, hq⟩ := hfl
        rw [hq] at a1 y2
        cases q with
        | nil =>
          simp [ptr] at a1
          have he := fun W => eq_nil W n0.b
          have HM2 : Hid (Mem wr lb ns M (ns.length : Int)) := hM
          clear hM hJ hq
          go_wp2
          go_roundw
          case rel => exact ⟨k + 1, _, by omega, by go_num, HM2.out, y3, hK⟩
          case measure => simp [intOf]; omega
        | cons c q =>
          simp [ptr] at a1
          obtain ⟨m, hm1, hm2, _⟩ := flo_mem (ns := r) (f := k) (c := c) (by rw [hq]; simp)
          have hmn : m ∈ ns := by rw [← hns]; simp [hm1]
          have hcb := hM.node m hmn
          rw [hm2] at hcb
          have he := eq_other wr c n0.b hcb (hM.node n0 hn0) (y2 c (by simp))
          have HM2 : Hid (Mem wr lb ns M (ns.length : Int)) := hM
          clear hM hJ hq hcb
          go_wp2
          go_roundw
          case rel => exact ⟨k + 1, _, by omega, by go_num, HM2.out, y3, hK⟩
          case measure => simp [intOf]; omega
    · obtain rfl : k = 4 := by omega
      have hD := hJ.done
      have hc := hM.head.cell 7
      simp at hc
      have hf := hM.head.free 7
      have hl := hM.head.lt
      have hlen : ((ns.length : Int) - 1) = ((low key ns ++ r).length : Int) := by
        have : ns.length = (low key ns ++ n0 :: r).length := by rw [hns]
        rw [this]; simp; omega
      have HM2 : Hid (Mem (wr.setCell ⟨lb, 7, none⟩ (.int .i64 ((ns.length : Int) - 1))) lb (low key ns ++ r) M ((low key ns ++ r).length : Int)) := by
        have := (hM.many g.nodup ((ns.length : Int) - 1)).sub (ms := low key ns ++ r) (by
          intro n hn
          rw [← hns]
          rcases List.mem_append.1 hn with h | h
          · exact List.mem_append_left _ h
          · exact List.mem_append_right _ (List.mem_cons_of_mem _ h))
        rwa [hlen] at this ⊢
      have hK2 := hK.trans (Kp.set wr (b := lb) (o := 7) (S := lb :: ns.map Nd.b) (by simp) (.int .i64 ((ns.length : Int) - 1)))
      clear hM hJ hK hlen
      go_wp2
      go_end0
      exact ⟨rfl, M, hD, HM2.out, hK2⟩
end Go.Proofs.YtkibgflbidkalaaDoor
