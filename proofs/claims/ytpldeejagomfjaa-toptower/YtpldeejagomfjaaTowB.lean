
/- Towers: an entry is dropped. -/
import Derived.Test.YtpldeejagomfjaaTowA
namespace Go.Proofs.Ytpldeejagomfjaa
open Go.RowKit

/-- Nothing but the blocks S has turned. -/
structure Kp (w w' : World) (S : List Nat) : Prop where
  os : w'.os = w.os
  tape : w'.tape = w.tape
  output : w'.output = w.output
  size : w.heap.size ≤ w'.heap.size
  blk : ∀ k, k < w.heap.size → k ∉ S → w'.heap[k]? = w.heap[k]?
theorem Kp.refl (w : World) (S : List Nat) : Kp w w S := ⟨rfl, rfl, rfl, Nat.le_refl _, fun _ _ _ => rfl⟩
theorem Kp.trans {a b c : World} {S : List Nat} (h : Kp a b S) (k : Kp b c S) : Kp a c S :=
  ⟨k.os.trans h.os, k.tape.trans h.tape, k.output.trans h.output, Nat.le_trans h.size k.size, fun i hi hs => (k.blk i (Nat.lt_of_lt_of_le hi h.size) hs).trans (h.blk i hi hs)⟩
theorem Kp.ofExt {a b : World} (h : Ext a b) (S : List Nat) : Kp a b S := ⟨h.below.os, h.below.tape, h.below.output, h.size, fun k hk _ => h.below.block k hk⟩
theorem Kp.mono {a b : World} {S T : List Nat} (h : Kp a b S) (hs : ∀ x ∈ S, x ∈ T) : Kp a b T := ⟨h.os, h.tape, h.output, h.size, fun k hk hn => h.blk k hk fun hh => hn (hs k hh)⟩
theorem Kp.set (w : World) {b o : Nat} {S : List Nat} (hb : b ∈ S) (v : Value) : Kp w (w.setCell ⟨b, o, none⟩ v) S :=
  ⟨rfl, rfl, rfl, by simp, fun k _ hn => Below.heap_setCell w ⟨b, o, none⟩ v k (fun e => hn (by rw [e]; exact hb))⟩
theorem Kp.ext {W w w' : World} {S : List Nat} (hx : Ext W w) (h : Kp w w' S) (hs : ∀ x ∈ S, W.heap.size ≤ x) : Ext W w' :=
  ⟨⟨h.os.trans hx.below.os, h.tape.trans hx.below.tape, h.output.trans hx.below.output, Nat.le_trans hx.size h.size, fun k hk => (h.blk k (Nat.lt_of_lt_of_le hk hx.size) (fun hh => by have := hs k hh; omega)).trans (hx.below.block k hk)⟩⟩
theorem Kp.Blk {w w' : World} {S : List Nat} (h : Kp w w' S) {b : Nat} {cs : Array Value} {t : TypeId} (hb : Blk w b cs t) (hn : b ∉ S) : Blk w' b cs t := ⟨by rw [h.blk b hb.lt hn]; exact hb.blk⟩

theorem Mem.many {w : World} {lb : Nat} {ns : List Nd} {L : Nat → Nat → Option Nat} {many : Int} (h : Mem w lb ns L many) (hn : (lb :: ns.map Nd.b).Nodup) (m : Int) : Mem (w.setCell ⟨lb, 7, none⟩ (.int .i64 m)) lb ns L m := by
  refine ⟨by simpa using h.head.set 7 (.int .i64 m), fun n hnn => (h.node n hnn).other (a := ⟨lb, 7, none⟩) ?_ _⟩
  intro e
  exact (List.nodup_cons.1 hn).1 (List.mem_map.2 ⟨n, hnn, e⟩)
theorem Mem.sub {w : World} {lb : Nat} {ns ms : List Nd} {L : Nat → Nat → Option Nat} {many : Int} (h : Mem w lb ns L many) (hs : ∀ n ∈ ms, n ∈ ns) : Mem w lb ms L many := ⟨h.head, fun n hn => h.node n (hs n hn)⟩

/-- The floors below j are those of ms already. -/
def ChnJ (L : Nat → Nat → Option Nat) (lb : Nat) (ns ms : List Nd) (j : Nat) : Prop := ∀ f, f < 4 → LL (fun b => L b f) lb (if f < j then flo f ms else flo f ns)
theorem ChnJ.zero {L : Nat → Nat → Option Nat} {lb : Nat} {ns ms : List Nd} (h : Chn L lb ns) : ChnJ L lb ns ms 0 := fun f hf => by simpa using h f hf
theorem ChnJ.done {L : Nat → Nat → Option Nat} {lb : Nat} {ns ms : List Nd} (h : ChnJ L lb ns ms 4) : Chn L lb ms := fun f hf => by have := h f hf; rwa [if_pos hf] at this
theorem ChnJ.at {L : Nat → Nat → Option Nat} {lb : Nat} {ns ms : List Nd} {j : Nat} (h : ChnJ L lb ns ms j) (hj : j < 4) : LL (fun b => L b j) lb (flo j ns) := by have := h j hj; rwa [if_neg (by omega)] at this
/-- A floor is laid anew. -/
theorem ChnJ.next {L M : Nat → Nat → Option Nat} {lb : Nat} {ns ms : List Nd} {j : Nat} (h : ChnJ L lb ns ms j) (ho : ∀ b g, g ≠ j → M b g = L b g) (hj : LL (fun b => M b j) lb (flo j ms)) : ChnJ M lb ns ms (j + 1) := by
  intro f hf
  by_cases e : f = j
  · subst e; rw [if_pos (by omega)]; exact hj
  · have h1 := h f hf
    have h2 : (fun b => M b f) = fun b => L b f := by funext b; exact ho b f e
    rw [h2]
    by_cases hlt : f < j
    · rw [if_pos (by omega)]; rwa [if_pos hlt] at h1
    · rw [if_neg (by omega)]; rwa [if_neg hlt] at h1
theorem nodup_flo {lb : Nat} {ns : List Nd} (h : (lb :: ns.map Nd.b).Nodup) (f : Nat) : (lb :: flo f ns).Nodup := List.Pairwise.sublist (List.Sublist.cons_cons lb flo_sub) h

section
variable {L : Nat → Nat → Option Nat} {lb : Nat} {lo r ms : List Nd} {n0 : Nd} {j : Nat}
theorem del_yes (hn : (lb :: (lo ++ n0 :: r).map Nd.b).Nodup) (h : ChnJ L lb (lo ++ n0 :: r) (lo ++ r) j) (hj : j < 4) (hh : j < n0.h) :
    L (lst lb (flo j lo)) j = some n0.b ∧ ChnJ (setL L (lst lb (flo j lo)) j (L n0.b j)) lb (lo ++ n0 :: r) (lo ++ r) (j + 1) := by
  have h1 := h.at hj
  have hnf := nodup_flo hn j
  have e1 : flo j (lo ++ n0 :: r) = flo j lo ++ n0.b :: flo j r := by rw [flo_app, flo_cons, if_pos hh]
  rw [e1] at h1 hnf
  have h2 := h1.to
  refine ⟨h2.1, h.next (fun b g hg => by simp [setL, hg]) ?_⟩
  rw [flo_app]
  refine LL.upd h1 (List.Pairwise.sublist (by simp) hnf) (fun c _ hc => by simp [setL, hc]) ?_
  have h3 : LL (fun b => L b j) n0.b (flo j r) := h2.2
  have hd : ∀ c ∈ flo j r, c ≠ lst lb (flo j lo) := by
    intro c hc e
    have hm := lst_mem lb (flo j lo)
    have h4 : (lb :: flo j lo ++ n0.b :: flo j r).Nodup := hnf
    have := (List.nodup_append.1 h4).2.2 _ hm c (by simp [hc])
    exact this e.symm
  cases hr : flo j r with
  | nil => rw [hr] at h3; show setL L _ j _ _ j = none; simp [setL]; exact h3
  | cons d q =>
    rw [hr] at h3 hd
    refine ⟨by show setL L _ j _ _ j = some d; simp [setL]; exact h3.1, h3.2.congr fun c hc => ?_⟩
    show setL L _ j _ c j = L c j
    simp [setL, hd c hc]
theorem del_no (hn : (lb :: (lo ++ n0 :: r).map Nd.b).Nodup) (h : ChnJ L lb (lo ++ n0 :: r) (lo ++ r) j) (hj : j < 4) (hh : ¬ j < n0.h) :
    L (lst lb (flo j lo)) j = (flo j r).head? ∧ (∀ c ∈ flo j r, c ≠ n0.b) ∧ ChnJ L lb (lo ++ n0 :: r) (lo ++ r) (j + 1) := by
  have h1 := h.at hj
  have e1 : flo j (lo ++ n0 :: r) = flo j (lo ++ r) := by rw [flo_app, flo_cons, if_neg hh, flo_app]
  rw [e1] at h1
  refine ⟨?_, ?_, h.next (fun _ _ _ => rfl) h1⟩
  · rw [flo_app] at h1
    exact h1.to.head
  · intro c hm e
    subst e
    obtain ⟨m, hm1, hm2, _⟩ := flo_mem hm
    have h4 := (List.nodup_cons.1 hn).2
    rw [List.map_append, List.map_cons] at h4
    exact (List.nodup_cons.1 (List.nodup_append.1 h4).2.1).1 (List.mem_map.2 ⟨m, hm1, hm2⟩)
theorem ins_step (hn : (lb :: (lo ++ n0 :: r).map Nd.b).Nodup) (h : ChnJ L lb (lo ++ r) (lo ++ n0 :: r) j) (hj : j < 4) (hh : j < n0.h) :
    ChnJ (setL (setL L n0.b j (L (lst lb (flo j lo)) j)) (lst lb (flo j lo)) j (some n0.b)) lb (lo ++ r) (lo ++ n0 :: r) (j + 1) := by
  have h1 := h.at hj
  have hnf := nodup_flo hn j
  have e1 : flo j (lo ++ n0 :: r) = flo j lo ++ n0.b :: flo j r := by rw [flo_app, flo_cons, if_pos hh]
  rw [e1] at hnf
  rw [flo_app] at h1
  refine h.next (fun b g hg => by simp [setL, hg]) ?_
  rw [e1]
  have h4 : (lb :: flo j lo ++ n0.b :: flo j r).Nodup := hnf
  have hsep := (List.nodup_append.1 h4).2.2
  have hnb : ∀ c ∈ lb :: flo j lo, c ≠ n0.b := fun c hc => hsep c hc _ (by simp)
  refine LL.upd h1 (List.Pairwise.sublist (by simp) hnf) (fun c hc hcc => by simp [setL, hcc, hnb c hc]) ?_
  have h2 := h1.to
  refine ⟨by simp [setL], ?_⟩
  have hne : n0.b ≠ lst lb (flo j lo) := fun e => hnb _ (lst_mem lb (flo j lo)) e.symm
  have hd : ∀ c ∈ flo j r, c ≠ lst lb (flo j lo) ∧ c ≠ n0.b := by
    intro c hc
    refine ⟨fun e => hsep _ (lst_mem lb (flo j lo)) c (by simp [hc]) e.symm, fun e => ?_⟩
    subst e
    exact (List.nodup_cons.1 (List.nodup_append.1 h4).2.1).1 hc
  cases hr : flo j r with
  | nil => rw [hr] at h2; show setL _ _ j _ n0.b j = none; simp [setL, hne]; exact h2
  | cons d q =>
    rw [hr] at h2 hd
    refine ⟨by show setL _ _ j _ n0.b j = some d; simp [setL, hne]; exact h2.1, h2.2.congr fun c hc => ?_⟩
    show setL _ _ j _ c j = L c j
    simp [setL, hd c hc]
end
end Go.Proofs.Ytpldeejagomfjaa
