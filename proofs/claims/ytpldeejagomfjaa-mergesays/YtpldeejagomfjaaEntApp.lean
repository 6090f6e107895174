
/- append of entries to a list of the call's own making. -/
import Derived.Test.YtpldeejagomfjaaEntL
import Derived.Test.YtpldeejagomfjaaApp
import Derived.Deep.AppendLies
namespace Go.Proofs.Ytpldeejagomfjaa
open Go.RowKit

/-- A list of entries that was made behind the world W0. -/
structure Lst (W0 w : World) (v : Value) (es : List Ent) : Prop where
  own : w.ownsRow W0.heap.size 30 3 v es.length (rowOf es)
  ext : Ext W0 w
theorem Lst.nil {W0 w : World} (h : Ext W0 w) : Lst W0 w (.slice none 0 0) [] := ⟨World.ownsRow_nil _ _ _ _, h⟩
theorem Lst.alloc {W0 w : World} {v : Value} {es : List Ent} (h : Lst W0 w v es) (o : Obj) : Lst W0 (w.alloc o) v es := ⟨h.own.alloc o, h.ext.alloc o⟩
theorem Lst.drew {W0 w : World} {v : Value} {es : List Ent} (h : Lst W0 w v es) : Lst W0 w.drew v es := ⟨h.own.drew, h.ext.drew⟩
theorem Lst.drewN {W0 w : World} {v : Value} {es : List Ent} (h : Lst W0 w v es) (n : Nat) : Lst W0 (w.drewN n) v es := ⟨h.own, h.ext.drewN n⟩
theorem Lst.at {W0 w : World} {v : Value} {es : List Ent} (h : Lst W0 w v es) : ∃ ao cap, v = .slice ao es.length cap ∧ EntsAt w ao es := ents_of_row h.own
theorem Lst.slice {W0 w : World} {v : Value} {es : List Ent} (h : Lst W0 w v es) : ∃ ao cap, v = .slice ao es.length cap := by
  obtain ⟨ao, cap, h, _⟩ := h.at; exact ⟨ao, cap, h⟩
theorem Lst.back {W0 W1 w : World} {v : Value} {es : List Ent} (h : Lst W1 w v es) (hx : Ext W0 W1) : Lst W0 w v es := by
  refine ⟨?_, hx.trans h.ext⟩
  obtain ⟨h1, h2⟩ := h.own
  refine ⟨h1, ?_⟩
  rcases h2 with h2 | ⟨g, cap, cur, a, b, c, d⟩
  · exact .inl h2
  · exact .inr ⟨g, cap, cur, a, Nat.le_trans hx.size b, c, d⟩

theorem snoc_cells (es : List Ent) (e : Ent) : rowOf (es ++ [e]) = rowOf es ++ entCells e := rowOf_snoc es e

theorem wpList_app_ent {w : World} {ops : Array Oper} {rest : List Oper} {o : Oper} {a : Act} {Q : Exit → Act → World → Prop} (hgd : o.guard = none) (s x : Operand)
    (ho : o.op = .call { callee := .builtin .append, args := #[s, x], argTypes := #[22, 22] })
    (W0 : World) (v : Value) (es : List Ent) (hs : a.eval s = v) (hl : Lst W0 w v es) (g : Nat) (key val : ByteArray) (gone : Bool) (hx : a.eval x = .slice (some ⟨g, 0, none⟩) 1 1)
    (hb : Blk w g #[.string key, .string val, .bool gone] 30) (hn : es.length ≤ 100000)
    (h : ∀ v' w', Lst W0 w' v' (es ++ [⟨key, val, gone⟩]) → wpList Try.prog ops Q rest (a.put o.dst v') w') : wpList Try.prog ops Q (o :: rest) a w := by
  obtain ⟨i0, hi, hz0, hz1, hz2⟩ := info_parts Try.info30
  refine wpList_append_own w hgd s x 22 ho W0.heap.size 30 i0 (.agg #[.string ⟨#[]⟩, .string ⟨#[]⟩, .bool false]) 3 40 Try.underlying22 hi hz0 hz1 hz2 rfl (by decide) v es.length (rowOf es) hs hl.own ⟨g, 0, none⟩ 1 1 [.string key, .string val, .bool gone] hx rfl ?_ ?_ ?_ ?_ hl.ext.size ?_
  · exact news_cells hb
  · intro u hu; simp only [List.mem_cons, List.not_mem_nil, or_false] at hu; rcases hu with rfl | rfl | rfl <;> rfl
  · unfold maxLen; omega
  · omega
  · intro v' w' p q _
    refine h v' w' ⟨?_, hl.ext.grown q (own_ge hl.own)⟩
    rw [rowOf_snoc, List.length_append]; exact p

theorem wpList_app_ents {w : World} {ops : Array Oper} {rest : List Oper} {o : Oper} {a : Act} {Q : Exit → Act → World → Prop} (hgd : o.guard = none) (s x : Operand)
    (ho : o.op = .call { callee := .builtin .append, args := #[s, x], argTypes := #[22, 22] })
    (W0 : World) (v : Value) (es : List Ent) (hs : a.eval s = v) (hl : Lst W0 w v es) (ao : Option Addr) (c : Nat) (fs : List Ent) (hx : a.eval x = .slice ao fs.length c)
    (hfs : EntsAt w ao fs) (hn : es.length + fs.length ≤ 100000)
    (h : ∀ v' w', Lst W0 w' v' (es ++ fs) → wpList Try.prog ops Q rest (a.put o.dst v') w') : wpList Try.prog ops Q (o :: rest) a w := by
  obtain ⟨i0, hi, hz0, hz1, hz2⟩ := info_parts Try.info30
  refine wpList_append_any hgd s x 22 ho W0.heap.size 30 i0 (.agg #[.string ⟨#[]⟩, .string ⟨#[]⟩, .bool false]) 3 40 Try.underlying22 hi hz0 hz1 hz2 rfl (by decide) v es.length (rowOf es) hs hl.own ao fs.length c (rowOf fs) hx (rowOf_length fs) hfs.row (rowOf_one fs) ?_ ?_ hl.ext.size ?_
  · unfold maxLen; omega
  · omega
  · intro v' w' p q
    refine h v' w' ⟨?_, hl.ext.grown q (own_ge hl.own)⟩
    rw [rowOf_app, List.length_append]; exact p

theorem step_app_ent {w : World} {ops : Array Oper} {o : Oper} {a : Act} {K : Act → World → Prop} {Q : Exit → Act → World → Prop} {E : Prop} (hgd : o.guard = none) (s x : Operand)
    (ho : o.op = .call { callee := .builtin .append, args := #[s, x], argTypes := #[22, 22] })
    (W0 : World) (v : Value) (es : List Ent) (hs : a.eval s = v) (hl : Lst W0 w v es) (g : Nat) (key val : ByteArray) (gone : Bool) (hx : a.eval x = .slice (some ⟨g, 0, none⟩) 1 1)
    (hb : Blk w g #[.string key, .string val, .bool gone] 30) (hn : es.length ≤ 100000)
    (h : ∀ g' cap' w', Lst W0 w' (.slice (some ⟨g', 0, none⟩) (es.length + 1) cap') (es ++ [⟨key, val, gone⟩]) → K (a.put o.dst (.slice (some ⟨g', 0, none⟩) (es.length + 1) cap')) w') :
    if Region.wanted o (yielded ops a.tmps) = true then Oper.wp Try.prog o a w K Q else E := by
  obtain ⟨i0, hi, hz0, hz1, hz2⟩ := info_parts Try.info30
  refine step_append_lies w hgd s x 22 ho W0.heap.size 30 i0 (.agg #[.string ⟨#[]⟩, .string ⟨#[]⟩, .bool false]) 3 40 Try.underlying22 hi hz0 hz1 hz2 rfl (by decide) v es.length (rowOf es) hs hl.own ⟨g, 0, none⟩ 1 1 [.string key, .string val, .bool gone] hx rfl ?_ ?_ (by decide) ?_ ?_ hl.ext.size w.heap.size rfl ?_
  · exact news_cells hb
  · intro u hu; simp only [List.mem_cons, List.not_mem_nil, or_false] at hu; rcases hu with rfl | rfl | rfl <;> rfl
  · unfold maxLen; omega
  · omega
  · intro g' cap' w' p q _ _
    refine h g' cap' w' ⟨?_, hl.ext.grown q (own_ge hl.own)⟩
    rw [rowOf_snoc, List.length_append]; exact p
end Go.Proofs.Ytpldeejagomfjaa
