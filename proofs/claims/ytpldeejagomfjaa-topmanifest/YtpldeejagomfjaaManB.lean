
/- Manifests: Bytes. -/
import Derived.Test.YtpldeejagomfjaaManA
import Derived.Lib.Strings
import Derived.Lib.AppendStr
import Derived.Deep.AppendLies
import Derived.Laws.BitsLemmas
namespace Go.Proofs.Ytpldeejagomfjaa
open Go.RowKit Go.WideShapes

def txtM (l : List UInt8) : ByteArray := ⟨l.toArray⟩
def byt (x : Int) : UInt8 := UInt8.ofNat x.toNat
/-- The bytes of a manifest. -/
def encM (ep lg : Int) (nw od : List Int) : List UInt8 := [77, byt (ep % 256), byt (ep / 256 % 256), byt (ep / 65536), byt lg, UInt8.ofNat nw.length, UInt8.ofNat od.length] ++ (nw ++ od).map byt
theorem scan_zero {l seen : List Int} (h : scan seen l = 0) : (∀ x ∈ l, 2 ≤ x ∧ x < 24) ∧ l.Nodup ∧ ∀ x ∈ l, x ∉ seen := by
  induction l generalizing seen with
  | nil => simp
  | cons b r ih =>
    unfold scan at h
    by_cases h1 : b < 2 ∨ 24 ≤ b
    · rw [if_pos h1] at h; omega
    · rw [if_neg h1] at h
      by_cases h2 : b ∈ seen
      · rw [if_pos h2] at h; omega
      · rw [if_neg h2] at h
        obtain ⟨a1, a2, a3⟩ := ih h
        refine ⟨?_, ?_, ?_⟩
        · intro x hx
          rcases List.mem_cons.1 hx with rfl | hx
          · omega
          · exact a1 x hx
        · refine List.nodup_cons.2 ⟨fun hb => a3 b hb (by simp), a2⟩
        · intro x hx
          rcases List.mem_cons.1 hx with rfl | hx
          · exact h2
          · exact fun hs => a3 x hx (by simp [hs])
theorem few_nat : ∀ (n : Nat) (l : List Nat), l.Nodup → (∀ x ∈ l, x < n) → l.length ≤ n
  | 0, l, _, h => by
    cases l with
    | nil => simp
    | cons x r => have := h x (by simp); omega
  | n + 1, l, hn, h => by
    by_cases hm : n ∈ l
    · have h1 := few_nat n (l.erase n) (hn.erase n) (fun x hx => by
        have h2 := h x (List.mem_of_mem_erase hx)
        have h3 : x ≠ n := fun e => by
          subst e
          exact (List.Nodup.mem_erase_iff hn).1 hx |>.1 rfl
        omega)
      rw [List.length_erase_of_mem hm] at h1
      omega
    · have h1 := few_nat n l hn (fun x hx => by
        have h2 := h x hx
        have h3 : x ≠ n := fun e => hm (e ▸ hx)
        omega)
      omega
theorem nodup_le {l : List Int} (hr : ∀ x ∈ l, 2 ≤ x ∧ x < 24) (hn : l.Nodup) : l.length ≤ 24 := by
  have h1 : (l.map Int.toNat).Nodup := by
    unfold List.Nodup
    rw [List.pairwise_map]
    refine List.Pairwise.imp_of_mem ?_ hn
    intro a b ha hb hne e
    have := hr a ha; have := hr b hb; omega
  have := few_nat 24 (l.map Int.toNat) h1 (fun x hx => by
    obtain ⟨y, hy, rfl⟩ := List.mem_map.1 hx
    have := hr y hy; omega)
  simpa using this

/-- Bytes that were made behind the world W0. -/
structure BL (W0 w : World) (v : Value) (l : List UInt8) : Prop where
  own : w.ownsRow W0.heap.size 5 1 v l.length (Lib.byteCells l)
  ext : Ext W0 w
theorem Try.infoB : (Try.prog.info? 5).map (fun i => (i.zero, i.size, i.bytes)) = some (some (.int .u8 0), 1, 1) := by kernel_rfl
theorem BL.alloc {W0 w : World} {v : Value} {xs : List UInt8} (h : BL W0 w v xs) (o : Obj) : BL W0 (w.alloc o) v xs := ⟨h.own.alloc o, h.ext.alloc o⟩
theorem BL.more {W0 w w' : World} {v : Value} {xs : List UInt8} (h : BL W0 w v xs) (hx : Ext w w') : BL W0 w' v xs := by
  refine ⟨?_, h.ext.trans hx⟩
  obtain ⟨h1, h2⟩ := h.own
  refine ⟨h1, ?_⟩
  rcases h2 with h2 | ⟨g, cap, cur, a, b, c, d⟩
  · exact .inl h2
  · refine .inr ⟨g, cap, cur, a, b, ?_, d⟩
    rw [hx.below.block g (lt_of_block c)]; exact c
theorem bl_new {W0 w : World} (hx : Ext W0 w) (l : List UInt8) (hl : l.length ≤ 1000) : BL W0 (w.alloc (.cells (Lib.byteCells l).toArray 5)) (.slice (some ⟨w.heap.size, 0, none⟩) l.length l.length) l := by
  refine ⟨⟨by simp [Lib.byteCells], .inr ⟨w.heap.size, l.length, _, rfl, hx.size, heap_alloc_new w _, Nat.le_refl _, by unfold maxLen; omega, by simp [Lib.byteCells], ?_⟩⟩, hx.alloc _⟩
  rw [List.take_of_length_le (by simp [Lib.byteCells])]
theorem wpList_app_byte {w : World} {ops : Array Oper} {rest : List Oper} {o : Oper} {a : Act} {Q : Exit → Act → World → Prop} (hgd : o.guard = none) (s x : Operand)
    (ho : o.op = .call { callee := .builtin .append, args := #[s, x], argTypes := #[125, 125] })
    (W0 : World) (v : Value) (l : List UInt8) (hs : a.eval s = v) (hl : BL W0 w v l) (g : Nat) (y : UInt8) (hx : a.eval x = .slice (some ⟨g, 0, none⟩) 1 1)
    (hb : Blk w g #[.int .u8 (y.toNat : Int)] 5) (hn : l.length ≤ 100000)
    (h : ∀ g' cap' w', BL W0 w' (.slice (some ⟨g', 0, none⟩) (l.length + 1) cap') (l ++ [y]) → w.grownBy w' v.ownBlock → (v.ownBlock = some g' ∨ g' = w.heap.size) → g' < w'.heap.size → wpList Try.prog ops Q rest (a.put o.dst (.slice (some ⟨g', 0, none⟩) (l.length + 1) cap')) w') : wpList Try.prog ops Q (o :: rest) a w := by
  obtain ⟨i0, hi, hz0, hz1, hz2⟩ := info_parts Try.infoB
  refine wpList_plain hgd fun _ hK => ?_
  refine wp_append_lies w s x 125 ho W0.heap.size 5 i0 (.int .u8 0) 1 1 Try.underlying125 hi hz0 hz1 hz2 rfl (by decide) v l.length (Lib.byteCells l) hs hl.own ⟨g, 0, none⟩ 1 1 [.int .u8 (y.toNat : Int)] hx rfl ?_ ?_ (by decide) ?_ ?_ hl.ext.size w.heap.size rfl ?_
  · exact news_cells hb
  · intro u hu; simp only [List.mem_cons, List.not_mem_nil, or_false] at hu; subst hu; rfl
  · unfold maxLen; omega
  · omega
  · intro g' cap' w' p q r t
    refine hK _ _ (h g' cap' w' ⟨?_, hl.ext.grown q (own_ge hl.own)⟩ q r t)
    have e : Lib.byteCells (l ++ [y]) = Lib.byteCells l ++ [.int .u8 (y.toNat : Int)] := by simp [Lib.byteCells]
    rw [e, List.length_append]; exact p
theorem BL.conv {W0 w : World} {v : Value} {l : List UInt8} (h : BL W0 w v l) (hne : l ≠ []) : (∃ g cap, v = .slice (some ⟨g, 0, none⟩) l.length cap) ∧ ∀ g cap, v = .slice (some ⟨g, 0, none⟩) l.length cap → (convert 125 9 (.slice (some ⟨g, 0, none⟩) l.length cap)).run Try.prog w = .ok (.string (txtM l)) w := by
  obtain ⟨hlen, hcase⟩ := h.own
  rcases hcase with ⟨rfl, h0⟩ | ⟨g, cap, cur, rfl, _, hh, _, _, _, htake⟩
  · exact absurd (List.eq_nil_of_length_eq_zero h0) hne
  · refine ⟨⟨g, cap, rfl⟩, fun g' cap' e => ?_⟩
    simp at e
    obtain ⟨rfl, rfl⟩ := e
    exact run_convert_bytes_back (P := Try.prog) w 125 9 5 ⟨g, 0, none⟩ cap l Try.underlying125 Try.underlying5 Try.underlying9 (fun j hj => by
      rw [add_plain, Nat.zero_add]
      have hj2 : (Lib.byteCells l)[j]? = some (.int .u8 (l[j].toNat : Int)) := by simp [Lib.byteCells, hj]
      rw [← htake, List.getElem?_take] at hj2
      split at hj2
      · simp only [World.cell?, hh]; simpa using hj2
      · simp at hj2)
end Go.Proofs.Ytpldeejagomfjaa
