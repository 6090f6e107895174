
/- The document's chip: Restart, where a page is written. -/
import Derived.Test.YtpldeejagomfjaaRefG
namespace Go.Proofs.Ytpldeejagomfjaa
open Go.RowKit Go.WideShapes

set_option maxRecDepth 100000 in
set_option maxHeartbeats 8000000 in
theorem rrestart_w2n (rb b : Nat) (d : List UInt8) (M : CM) (w : World) (h : RefAt w rb M) (hb : b < 24) (hp : M.pend = some (.write b d)) (h8 : (M.pg b).length < 8) (hn : ¬ (M.pg b).length = 0) :
    Calls Try.prog 39 #[.pointer (some ⟨rb, 0, none⟩), .int .i64 2] w fun e w' => e = .returned (.tuple #[]) ∧ RefAt w' rb { layM M b (.whole d) with left := -1, pend := none } ∧ w.grownBy w' (some rb) := by
  obtain ⟨c98, c97, c96, ⟨data, c99, hdata⟩, f0, hlt⟩ := h.tail
  have hdt := hdata b d hp
  subst hdt
  rw [hp] at c98
  have c98' : w.cell? ⟨rb, 98, none⟩ = some (.int .i64 (1 + (b : Int))) := c98
  have hb0 : (0 : Int) ≤ (b : Int) := by omega
  have hb24 : (b : Int) < 24 := by omega
  have hbn : 1 + (b : Int) - 1 = (b : Int) := by omega
  have hb100 : ¬ 100 < 1 + (b : Int) := by omega
  have hbpos : 0 < 1 + (b : Int) := by omega
  clear c98 hdata
  generalize downB M = y at *
  generalize max M.left (-1) = z at *
  go_enter Try.func39, Try.ntmps39
  go_wp2
  have hx01 : Ext w (w.alloc (.cells #[.string (txtL d), .bool false] 143)) := (Ext.refl w).alloc _
  have h1 := h.ext hx01
  have hXB : Blk (w.alloc (.cells #[.string (txtL d), .bool false] 143)) w.heap.size #[.string (txtL d), .bool false] 143 := Blk.new _ _ _
  have x0 := hXB.cell 0
  have x1 := hXB.cell 1
  simp only [List.getElem?_toArray, List.getElem?_cons_zero, List.getElem?_cons_succ] at x0 x1
  have hxlt := hXB.lt
  have hrx : ¬ rb = w.heap.size := by omega
  generalize w.alloc (.cells #[.string (txtL d), .bool false] 143) = w1 at *
  generalize hxb : w.heap.size = xb at *
  clear c97 c96 c98' c99 f0
  have hlt3 : rb < w1.heap.size := h1.tail.2.2.2.2.2
  obtain ⟨g, cap, cur, e0, f0, hB, htk, hgr⟩ : ∃ g cap cur, w1.cell? ⟨rb, b, none⟩ = some (.slice (some ⟨g, 0, none⟩) (M.pg b).length cap) ∧ w1.frozen? ⟨rb, b, none⟩ = false ∧ Blk w1 g cur 143 ∧ cur.toList.take ((M.pg b).length * 2) = shCells (M.pg b) ∧ ¬ g = rb := by
    obtain ⟨rc, data, k1, k2, _⟩ := h1.cells
    obtain ⟨v, q1, q2, _⟩ := k2.rows b hb
    rcases q2.2 with ⟨_, q⟩ | ⟨g, cap', cur, rfl, _, hh, _, _, _, q⟩
    · exact absurd q hn
    · exact ⟨g, cap', cur, by rw [k1.cell, q1], k1.free _, ⟨hh⟩, q, own_ne q2 rfl k1 (by decide)⟩
  have hsl := shCells_len (M.pg b)
  have hso := shCells_one (M.pg b)
  have HTK : Hid (cur.toList.take ((M.pg b).length * 2) = shCells (M.pg b)) := htk
  have HSO : Hid (∀ v ∈ shCells (M.pg b), v.oneCell' = true) := hso
  have hal0 : (w1.alloc (.cells #[.string (txtL d), .bool false] 143)).cell? ⟨rb, b, none⟩ = some (.slice (some ⟨g, 0, none⟩) (M.pg b).length cap) := (held_alloc ⟨e0, f0⟩ _ _).1
  clear htk hso
  generalize hN : shCells (M.pg b) = news at *
  generalize hn' : (M.pg b).length = n at *
  have hpos : 0 < n := by omega
  go_region_law
    (first
      | (refine step_app0 rfl (.const (.slice none 0 0)) (.tmp 96) rfl rfl ⟨g, 0, none⟩ n cap news rfl ?_ ?_ HSO.out ?_ ?_ w1.heap.size ?_ ?_
         · exact hsl
         · exact own_news (Blk.drew hB) HTK.out
         · exact hpos
         · omega
         · simp
         intro g1 cap1 w2 hown1 hgrow1 hat1 hlt1
         subst hat1
         have hA1 : Ext w1 w2 := (Ext.refl w1).drew.grownR hgrow1 (by intro k hk; cases hk)
         have xx0 := hA1.cell x0
         have xx1 := hA1.cell x1
         have hh1 := held_grown (held_drew ⟨e0, f0⟩) hgrow1 (by simp))
      | (refine step_app0 rfl (.const (.slice none 0 0)) (.tmp 96) rfl rfl ⟨g, 0, none⟩ n cap news rfl ?_ ?_ HSO.out ?_ ?_ (w1.heap.size + 1) ?_ ?_
         · exact hsl
         · exact own_news (Blk.drew (hB.alloc _)) HTK.out
         · exact hpos
         · omega
         · simp
         intro g1 cap1 w2 hown1 hgrow1 hat1 hlt1
         subst hat1
         have hA2 : Ext w1 w2 := ((Ext.refl w1).alloc _).drew.grownR hgrow1 (by intro k hk; cases hk)
         have hBn : Blk w2 w1.heap.size #[.string (txtL d), .bool false] 143 := ⟨by rw [hgrow1.block _ (by simp) (by simp)]; exact (Blk.new w1 #[.string (txtL d), .bool false] 143).blk⟩
         have hh1 := held_grown (held_drew (held_alloc ⟨e0, f0⟩ #[.string (txtL d), .bool false] 143)) hgrow1 (by simp))
      | (refine step_app rfl (.tmp 97) (.tmp 99) rfl (hown1.alloc _) rfl ⟨w2.heap.size, 0, none⟩ 1 1 [.string (txtL d), .bool false] rfl rfl ?_ ?_ ?_ ?_ (w2.heap.size + 1) ?_ ?_
         · exact news_cells (Blk.new' w2 _ _ (n := w2.heap.size) rfl)
         · simp [Value.oneCell']
         · decide
         · omega
         · simp
         intro gg cap2 w3 hown3 hgrow hat hlt4
         have hh3 := held_grown (held_alloc hh1 #[.string (txtL d), .bool false] 143) hgrow (by simp [Value.ownBlock]; omega)
         have hxx : Ext w1 w3 := (hA1.alloc _).grownR hgrow (by intro k hk; simp [Value.ownBlock] at hk; omega)
         have hnew : ∀ k, (Value.slice (some ⟨gg, 0, none⟩) (n + 1) cap2).ownBlock = some k → w1.heap.size ≤ k := by
           intro k hk
           have := hA1.size
           simp [Value.ownBlock] at hk hat
           omega
         obtain ⟨e3, f3⟩ := hh3)
      | (refine step_app rfl (.tmp 97) (.tmp 99) rfl hown1 rfl ⟨w1.heap.size, 0, none⟩ 1 1 [.string (txtL d), .bool false] rfl rfl ?_ ?_ ?_ ?_ w2.heap.size ?_ ?_
         · exact news_cells hBn
         · simp [Value.oneCell']
         · decide
         · omega
         · rfl
         intro gg cap2 w3 hown3 hgrow hat hlt4
         have hh3 := held_grown hh1 hgrow (by simp [Value.ownBlock]; omega)
         have hxx : Ext w1 w3 := hA2.grownR hgrow (by intro k hk; simp [Value.ownBlock] at hk; omega)
         have hnew : ∀ k, (Value.slice (some ⟨gg, 0, none⟩) (n + 1) cap2).ownBlock = some k → w1.heap.size ≤ k := by
           intro k hk
           have := hA2.size
           simp [Value.ownBlock] at hk hat
           omega
         obtain ⟨e3, f3⟩ := hh3)
      | fail)
  all_goals subst hN
  all_goals
    obtain ⟨hR, hgR⟩ := lay_fin (p := (.whole d)) h1 hb rfl hxx hown3 hnew
    obtain ⟨d98, d97, d96, _, g0, hltW⟩ := hR.tail
    have e98 := g0 98
    have e97 := g0 97
    have e96 := g0 96
    have hF := hR.fin
    clear g0 hR hown3 hnew
    generalize downB _ = y2 at d97
    generalize max _ (-1) = z2 at d96
    generalize tornN _ = t2 at d98
    generalize w3.setCell ⟨rb, b, none⟩ _ = W at *
    go_wp2
    go_end0
    exact ⟨rfl, hF.1, grow_trans (grow_ext hx01 _) (grow_trans hgR hF.2)⟩

end Go.Proofs.Ytpldeejagomfjaa
