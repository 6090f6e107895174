
/- Towers: nodes, floors, links. -/
import Derived.Test.YtpldeejagomfjaaLstM
namespace Go.Proofs.Ytpldeejagomfjaa
open Go.RowKit

/-- A node: its block, its entry, how high it is. -/
structure Nd where
  b : Nat
  e : Ent
  h : Nat
/-- The nodes of a floor. -/
def flo (f : Nat) (ns : List Nd) : List Nat := (ns.filter (fun n => decide (f < n.h))).map Nd.b
theorem flo_app (f : Nat) (a b : List Nd) : flo f (a ++ b) = flo f a ++ flo f b := by simp [flo]
theorem flo_cons (f : Nat) (n : Nd) (r : List Nd) : flo f (n :: r) = if f < n.h then n.b :: flo f r else flo f r := by
  unfold flo; by_cases h : f < n.h <;> simp [h]
theorem flo_mem {f c : Nat} {ns : List Nd} (h : c ∈ flo f ns) : ∃ n ∈ ns, n.b = c ∧ f < n.h := by
  unfold flo at h
  obtain ⟨n, hn, rfl⟩ := List.mem_map.1 h
  have := List.mem_filter.1 hn
  exact ⟨n, this.1, rfl, by simpa using this.2⟩
theorem flo_sub {f : Nat} {ns : List Nd} : (flo f ns).Sublist (ns.map Nd.b) := List.Sublist.map _ List.filter_sublist
theorem flo_zero {ns : List Nd} (h : ∀ n ∈ ns, 1 ≤ n.h) : flo 0 ns = ns.map Nd.b := by
  unfold flo; congr 1; rw [List.filter_eq_self]; intro n hn; have := h n hn; simp; omega
/-- From a, by links, through a list to the end. -/
def LL (L : Nat → Option Nat) : Nat → List Nat → Prop
  | a, [] => L a = none
  | a, b :: r => L a = some b ∧ LL L b r
/-- The last one of a list, or a. -/
def lst : Nat → List Nat → Nat
  | a, [] => a
  | _, b :: r => lst b r
theorem lst_mem (a : Nat) (p : List Nat) : lst a p ∈ a :: p := by
  induction p generalizing a with
  | nil => simp [lst]
  | cons b r ih => have := ih b; simp only [lst]; exact List.mem_cons_of_mem _ this
theorem lst_app (a c : Nat) (p : List Nat) : lst a (p ++ [c]) = c := by
  induction p generalizing a with
  | nil => rfl
  | cons b r ih => exact ih b
theorem lst_ne (a c : Nat) (p : List Nat) (h : p ≠ []) : lst a p = lst c p := by
  cases p with
  | nil => exact absurd rfl h
  | cons b r => rfl
theorem LL.to {L : Nat → Option Nat} {a : Nat} {p q : List Nat} (h : LL L a (p ++ q)) : LL L (lst a p) q := by
  induction p generalizing a with
  | nil => exact h
  | cons b r ih => exact ih h.2
theorem LL.head {L : Nat → Option Nat} {a : Nat} {q : List Nat} (h : LL L a q) : L a = q.head? := by
  cases q with
  | nil => exact h
  | cons b r => exact h.1
theorem LL.congr {L M : Nat → Option Nat} {a : Nat} {q : List Nat} (h : LL L a q) (hc : ∀ c ∈ a :: q, M c = L c) : LL M a q := by
  induction q generalizing a with
  | nil => show M a = none; rw [hc a (by simp)]; exact h
  | cons b r ih => exact ⟨by rw [hc a (by simp)]; exact h.1, ih h.2 fun c hh => hc c (List.mem_cons_of_mem _ hh)⟩
theorem LL.upd {L M : Nat → Option Nat} {a : Nat} {p q q' : List Nat} (h : LL L a (p ++ q)) (hn : (a :: p).Nodup) (hM : ∀ c ∈ a :: p, c ≠ lst a p → M c = L c) (hq : LL M (lst a p) q') : LL M a (p ++ q') := by
  induction p generalizing a with
  | nil => exact hq
  | cons b r ih =>
    have hn' := List.nodup_cons.1 hn
    have hne : a ≠ lst a (b :: r) := by
      intro e
      have : lst b r ∈ b :: r := lst_mem b r
      exact hn'.1 (by rw [e]; exact this)
    refine ⟨?_, ih h.2 hn'.2 (fun c hc hcc => hM c (List.mem_cons_of_mem _ hc) hcc) hq⟩
    show M a = some b
    rw [hM a (by simp) hne]; exact h.1
/-- Fewer of a list: their last one is on the way of the others. -/
theorem lst_split (P Q : Nd → Bool) (hPQ : ∀ n, P n = true → Q n = true) (l : List Nd) (a : Nat) : ∃ p rest, (l.filter Q).map Nd.b = p ++ rest ∧ lst a ((l.filter P).map Nd.b) = lst a p := by
  induction l generalizing a with
  | nil => exact ⟨[], [], rfl, rfl⟩
  | cons n r ih =>
    cases hp : P n with
    | true =>
      obtain ⟨p, rest, h1, h2⟩ := ih n.b
      refine ⟨n.b :: p, rest, ?_, ?_⟩
      · rw [List.filter_cons, if_pos (hPQ n hp), List.map_cons, h1]; rfl
      · rw [List.filter_cons, if_pos hp, List.map_cons]; exact h2
    | false =>
      obtain ⟨p, rest, h1, h2⟩ := ih a
      have hf : (n :: r).filter P = r.filter P := by rw [List.filter_cons, if_neg (by simp [hp])]
      rw [hf]
      cases hq : Q n with
      | false => exact ⟨p, rest, by rw [List.filter_cons, if_neg (by simp [hq])]; exact h1, h2⟩
      | true =>
        have hg : ((n :: r).filter Q).map Nd.b = n.b :: (p ++ rest) := by rw [List.filter_cons, if_pos hq, List.map_cons, h1]
        rw [hg]
        cases p with
        | nil => exact ⟨[], n.b :: rest, rfl, h2⟩
        | cons c p => exact ⟨n.b :: c :: p, rest, rfl, h2⟩
theorem flo_split (f : Nat) (l : List Nd) (a : Nat) : ∃ p rest, flo f l = p ++ rest ∧ lst a (flo (f + 1) l) = lst a p :=
  lst_split _ _ (fun n h => by simp at *; omega) l a

/-- The nodes below a key; the others. -/
def low (k : ByteArray) (ns : List Nd) : List Nd := ns.takeWhile (fun n => decide (Lt n.e.key k))
def hig (k : ByteArray) (ns : List Nd) : List Nd := ns.dropWhile (fun n => decide (Lt n.e.key k))
theorem low_hig (k : ByteArray) (ns : List Nd) : low k ns ++ hig k ns = ns := List.takeWhile_append_dropWhile
theorem low_lt {k : ByteArray} {ns : List Nd} {n : Nd} (h : n ∈ low k ns) : Lt n.e.key k := by
  unfold low at h
  induction ns with
  | nil => simp at h
  | cons m r ih =>
    rw [List.takeWhile_cons] at h
    split at h
    · rename_i hm
      rcases List.mem_cons.1 h with rfl | h
      · simpa using hm
      · exact ih h
    · simp at h
/-- The nodes are as they should be. -/
structure TwG (lb : Nat) (ns : List Nd) : Prop where
  nodup : (lb :: ns.map Nd.b).Nodup
  hs : ∀ n ∈ ns, 1 ≤ n.h ∧ n.h ≤ 4
  ris : Ris (ns.map Nd.e)
theorem hig_ge {lb : Nat} {k : ByteArray} {ns : List Nd} (g : TwG lb ns) {n : Nd} (h : n ∈ hig k ns) : ¬ Lt n.e.key k := by
  have hr : Ris ((hig k ns).map Nd.e) := by
    have h1 : ((hig k ns).map Nd.e).Sublist (ns.map Nd.e) := List.Sublist.map _ (List.dropWhile_suffix _).sublist
    exact List.Pairwise.sublist h1 g.ris
  cases hh : hig k ns with
  | nil => rw [hh] at h; simp at h
  | cons m r =>
    have hm : ¬ Lt m.e.key k := by
      have h3 : ns.dropWhile (fun n => decide (Lt n.e.key k)) = m :: r := hh
      have := List.head?_dropWhile_not (fun n : Nd => decide (Lt n.e.key k)) ns
      rw [h3] at this
      simpa using this
    rw [hh] at h hr
    rcases List.mem_cons.1 h with rfl | h
    · exact hm
    · intro hlt
      exact hm (Lt.trans (hr.head n.e (List.mem_map.2 ⟨n, h, rfl⟩)) hlt)
/-- The last one below a key, on a floor. -/
def pr (lb : Nat) (ns : List Nd) (k : ByteArray) (f : Nat) : Nat := lst lb (flo f (low k ns))
def ptr (o : Option Nat) : Value := .pointer (o.map fun b => ⟨b, 0, none⟩)
/-- What lies in memory. -/
structure Mem (w : World) (lb : Nat) (ns : List Nd) (L : Nat → Nat → Option Nat) (many : Int) : Prop where
  head : Blk w lb #[.string ⟨#[]⟩, .string ⟨#[]⟩, .bool false, ptr (L lb 0), ptr (L lb 1), ptr (L lb 2), ptr (L lb 3), .int .i64 many] 152
  node : ∀ n ∈ ns, Blk w n.b #[.string n.e.key, .string n.e.val, .bool n.e.gone, ptr (L n.b 0), ptr (L n.b 1), ptr (L n.b 2), ptr (L n.b 3)] 150
def Chn (L : Nat → Nat → Option Nat) (lb : Nat) (ns : List Nd) : Prop := ∀ f, f < 4 → LL (fun b => L b f) lb (flo f ns)

theorem Mem.ext {w w' : World} {lb : Nat} {ns : List Nd} {L : Nat → Nat → Option Nat} {many : Int} (h : Mem w lb ns L many) (hx : Ext w w') : Mem w' lb ns L many :=
  ⟨h.head.ext hx, fun n hn => (h.node n hn).ext hx⟩
/-- The links of whoever has some: the head, or a node. -/
theorem Mem.link {w : World} {lb : Nat} {ns : List Nd} {L : Nat → Nat → Option Nat} {many : Int} (h : Mem w lb ns L many) {a f : Nat} (ha : a ∈ lb :: ns.map Nd.b) (hf : f < 4) : w.cell? ⟨a, 3 + f, none⟩ = some (ptr (L a f)) ∧ w.frozen? ⟨a, 3 + f, none⟩ = false ∧ a < w.heap.size := by
  rcases (show f = 0 ∨ f = 1 ∨ f = 2 ∨ f = 3 by omega) with rfl | rfl | rfl | rfl <;>
  · rcases List.mem_cons.1 ha with rfl | ha
    · exact ⟨by rw [h.head.cell]; rfl, h.head.free _, h.head.lt⟩
    · obtain ⟨n, hn, rfl⟩ := List.mem_map.1 ha
      exact ⟨by rw [(h.node n hn).cell]; rfl, (h.node n hn).free _, (h.node n hn).lt⟩
/-- A link is laid anew. -/
def setL (L : Nat → Nat → Option Nat) (a f : Nat) (o : Option Nat) : Nat → Nat → Option Nat := fun b g => if b = a ∧ g = f then o else L b g
theorem Mem.set {w : World} {lb : Nat} {ns : List Nd} {L : Nat → Nat → Option Nat} {many : Int} (h : Mem w lb ns L many) (hn : (lb :: ns.map Nd.b).Nodup) {a f : Nat} (hf : f < 4) (ha : a ∈ lb :: ns.map Nd.b) (o : Option Nat) :
    Mem (w.setCell ⟨a, 3 + f, none⟩ (ptr o)) lb ns (setL L a f o) many := by
  have hn' := List.nodup_cons.1 hn
  refine ⟨?_, fun n hnn => ?_⟩
  · by_cases hl : lb = a
    · subst hl
      have := h.head.set (3 + f) (ptr o)
      rcases (show f = 0 ∨ f = 1 ∨ f = 2 ∨ f = 3 by omega) with rfl | rfl | rfl | rfl <;> simpa [setL] using this
    · have := h.head.other (a := ⟨a, 3 + f, none⟩) hl (ptr o)
      simpa [setL, hl] using this
  · by_cases hl : n.b = a
    · subst hl
      have := (h.node n hnn).set (3 + f) (ptr o)
      rcases (show f = 0 ∨ f = 1 ∨ f = 2 ∨ f = 3 by omega) with rfl | rfl | rfl | rfl <;> simpa [setL] using this
    · have := (h.node n hnn).other (a := ⟨a, 3 + f, none⟩) hl (ptr o)
      simpa [setL, hl] using this
end Go.Proofs.Ytpldeejagomfjaa
