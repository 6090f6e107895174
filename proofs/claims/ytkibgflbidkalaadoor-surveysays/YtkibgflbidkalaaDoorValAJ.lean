/- ValA. -/
import Derived.Test.YtkibgflbidkalaaDoorTopKJ

/- What a store is asked for, in one form. -/
namespace Go.Proofs.YtkibgflbidkalaaDoor
open Go.RowKit Go.WideShapes

def valE (o : Option Ent) : ByteArray := match o with | some e => e.val | none => ⟨#[]⟩
/-- What is written to other keys isn't seen at this one. -/
theorem lastK_none {l : List Ent} {key : ByteArray} (h : ∀ e ∈ l, ¬ e.key = key) : lastK l key = none := by
  unfold lastK
  rw [List.find?_eq_none]
  intro e he
  simpa using h e (by simpa using he)
theorem getE_wr {R : List Ent} (hr : Ris R) (l : List Ent) (key : ByteArray) (hw : writeF R l = 0) : getE (wrR R l) key = liveO ((lastK l key).or (getE R key)) := by
  unfold wrR
  rw [if_pos hw]
  unfold afterE
  rw [getE_live (hr.puts l), getE_putsL l hr]
theorem getE_other {R : List Ent} (hr : Ris R) (hl : ∀ e ∈ R, e.gone = false) (l : List Ent) (key : ByteArray) (h : ∀ e ∈ l, ¬ e.key = key) : getE (wrR R l) key = getE R key := by
  by_cases hw : writeF R l = 0
  · rw [getE_wr hr l key hw, lastK_none h]
    exact getE_live' hl key
  · unfold wrR
    rw [if_neg hw]
/-- Write, with the store behind w. -/
theorem writeH (w : World) (n k : Nat) (R : List Ent) (hn : n ≤ 80000) (bo : Option Addr) (bc : Nat) (l : List Ent) (hes : EntsAt w bo l) : Hid (∀ W S sb cb m, Ext w W → (∀ b ∈ S, w.heap.size ≤ b) → Up n W S sb cb m k R → Calls Tryd.prog 9 #[.pointer (some ⟨sb, 0, none⟩), .slice bo l.length bc] W fun e w' => e = .returned (errV (writeF R l)) ∧ ∃ S' m', Up (n + 9) w' S' sb cb m' k (wrR R l) ∧ Ext w w' ∧ ∀ b ∈ S', w.heap.size ≤ b) := fun _ _ _ _ _ hx hS hU => (hU.wr hn (Aside3.old hes hx hS)).mono fun _ _ h => ⟨h.1, h.2.far hS hx⟩
theorem lightH (w : World) (q : Nat) (bo : Option Addr) (bc : Nat) (l : List Ent) (hq : q ≤ 1000) (hll : l.length ≤ 9223372036854775807) (hes : EntsAt w bo l) : Hid (∀ W, Ext w W → Calls Tryd.prog 21 #[.slice bo l.length bc, .int .i64 (q : Int)] W fun e w' => e = .returned (.bool (light l q)) ∧ W = w') := fun W hx => (light_any bo bc l q W (by omega) hll (hes.ext2 hx)).mono fun _ _ h => ⟨h.1, h.2.symm⟩
theorem light_len {l : List Ent} {q : Nat} (h : light l q = true) : l.length ≤ q := by
  unfold light at h; simp at h; exact h.1
theorem light_key {l : List Ent} {q : Nat} (h : light l q = true) : ∀ e ∈ l, e.key.size ≤ 20 := fun e he => by
  unfold light at h
  simp only [Bool.and_eq_true, List.all_eq_true] at h
  have := h.2 e he
  unfold lightE at this
  simp at this
  omega
end Go.Proofs.YtkibgflbidkalaaDoor
