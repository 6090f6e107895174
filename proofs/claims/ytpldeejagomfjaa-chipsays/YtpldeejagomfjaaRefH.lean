
/- The document's chip: Restart, where a page is written. -/
import Derived.Test.YtpldeejagomfjaaRefG
namespace Go.Proofs.Ytpldeejagomfjaa
open Go.RowKit Go.WideShapes

set_option maxRecDepth 100000 in
set_option maxHeartbeats 8000000 in
theorem rrestart_w1z (rb b : Nat) (d : List UInt8) (M : CM) (w : World) (h : RefAt w rb M) (hb : b < 24) (hp : M.pend = some (.write b d)) (hn : (M.pg b).length = 0) :
    Calls Try.prog 39 #[.pointer (some ⟨rb, 0, none⟩), .int .i64 1] w fun e w' => e = .returned (.tuple #[]) ∧ RefAt w' rb { layM M b .torn with left := -1, pend := none } ∧ w.grownBy w' (some rb) := by
  obtain ⟨c98, c97, c96, ⟨data, c99, hdata⟩, f0, hlt⟩ := h.tail
  have hdt := hdata b d hp
  subst hdt
  rw [hp] at c98
  have c98' : w.cell? ⟨rb, 98, none⟩ = some (.int .i64 (1 + (b : Int))) := c98
  have hb0 : (0 : Int) ≤ (b : Int) := by omega
  have hb24 : (b : Int) < 24 := by omega
  have hbn : 1 + (b : Int) - 1 = (b : Int) := by omega
  have hb100 : ¬ 100 < 1 + (b : Int) := by omega
  have hbpos : 0 < 1 + (b : Int) := by omega
  clear c98 hdata
  generalize downB M = y at *
  generalize max M.left (-1) = z at *
  go_enter Try.func39, Try.ntmps39
  go_wp2
  have hx01 : Ext w (w.alloc (.cells #[.string ⟨#[]⟩, .bool true] 143)) := (Ext.refl w).alloc _
  have h1 := h.ext hx01
  have hXB : Blk (w.alloc (.cells #[.string ⟨#[]⟩, .bool true] 143)) w.heap.size #[.string ⟨#[]⟩, .bool true] 143 := Blk.new _ _ _
  have x0 := hXB.cell 0
  have x1 := hXB.cell 1
  simp only [List.getElem?_toArray, List.getElem?_cons_zero, List.getElem?_cons_succ] at x0 x1
  have hxlt := hXB.lt
  have hrx : ¬ rb = w.heap.size := by omega
  generalize w.alloc (.cells #[.string ⟨#[]⟩, .bool true] 143) = w1 at *
  generalize hxb : w.heap.size = xb at *
  clear c97 c96 c98' c99 f0
  have hlt3 : rb < w1.heap.size := h1.tail.2.2.2.2.2
  obtain ⟨v, e0, _, hnil, _⟩ := h1.own hb
  have hl0 : M.pg b = [] := List.length_eq_zero_iff.1 hn
  have hv := hnil hl0
  subst hv
  have f0 := h1.tail.2.2.2.2.1 b
  have hal0 : (w1.alloc (.cells #[.string ⟨#[]⟩, .bool true] 143)).cell? ⟨rb, b, none⟩ = some (.slice none 0 0) := (held_alloc ⟨e0, f0⟩ _ _).1
  have hsc : shCells (M.pg b) = [] := by rw [hl0]; rfl
  clear hnil
  go_region_law
    (first
      | (refine step_app rfl (.tmp 97) (.tmp 99) rfl (own_nil _) rfl ⟨w1.heap.size, 0, none⟩ 1 1 [.string ⟨#[]⟩, .bool true] rfl rfl ?_ ?_ ?_ ?_ (w1.heap.size + 1) ?_ ?_
         · exact news_cells (Blk.drew (Blk.new' w1 _ _ (n := w1.heap.size) rfl))
         · simp [Value.oneCell']
         · decide
         · omega
         · simp
         intro gg cap2 w3 hown3 hgrow hat hlt4
         have hh3 := held_grown (held_drew (held_alloc ⟨e0, f0⟩ #[.string ⟨#[]⟩, .bool true] 143)) hgrow (by simp [Value.ownBlock])
         have hxx : Ext w1 w3 := ((Ext.refl w1).alloc _).drew.grownR hgrow (by intro k hk; cases hk)
         have hnew : ∀ k, (Value.slice (some ⟨gg, 0, none⟩) (0 + 1) cap2).ownBlock = some k → w1.heap.size ≤ k := by
           intro k hk
           simp [Value.ownBlock] at hk hat
           omega
         replace hown3 : w3.ownsRow 0 143 2 (.slice (some ⟨gg, 0, none⟩) (0 + 1) cap2) (0 + 1) (shCells (M.pg b) ++ [.string ⟨#[]⟩, .bool true]) := by rw [hsc]; exact hown3
         obtain ⟨e3, f3⟩ := hh3)
      | fail)
  all_goals
    obtain ⟨hR, hgR⟩ := lay_fin (p := .torn) h1 hb rfl hxx hown3 hnew
    obtain ⟨d98, d97, d96, _, g0, hltW⟩ := hR.tail
    have e98 := g0 98
    have e97 := g0 97
    have e96 := g0 96
    have hF := hR.fin
    clear g0 hR hown3 hnew
    generalize downB _ = y2 at d97
    generalize max _ (-1) = z2 at d96
    generalize tornN _ = t2 at d98
    generalize w3.setCell ⟨rb, b, none⟩ _ = W at *
    go_wp2
    go_end0
    exact ⟨rfl, hF.1, grow_trans (grow_ext hx01 _) (grow_trans hgR hF.2)⟩

set_option maxRecDepth 100000 in
set_option maxHeartbeats 8000000 in
theorem rrestart_w2z (rb b : Nat) (d : List UInt8) (M : CM) (w : World) (h : RefAt w rb M) (hb : b < 24) (hp : M.pend = some (.write b d)) (hn : (M.pg b).length = 0) :
    Calls Try.prog 39 #[.pointer (some ⟨rb, 0, none⟩), .int .i64 2] w fun e w' => e = .returned (.tuple #[]) ∧ RefAt w' rb { layM M b (.whole d) with left := -1, pend := none } ∧ w.grownBy w' (some rb) := by
  obtain ⟨c98, c97, c96, ⟨data, c99, hdata⟩, f0, hlt⟩ := h.tail
  have hdt := hdata b d hp
  subst hdt
  rw [hp] at c98
  have c98' : w.cell? ⟨rb, 98, none⟩ = some (.int .i64 (1 + (b : Int))) := c98
  have hb0 : (0 : Int) ≤ (b : Int) := by omega
  have hb24 : (b : Int) < 24 := by omega
  have hbn : 1 + (b : Int) - 1 = (b : Int) := by omega
  have hb100 : ¬ 100 < 1 + (b : Int) := by omega
  have hbpos : 0 < 1 + (b : Int) := by omega
  clear c98 hdata
  generalize downB M = y at *
  generalize max M.left (-1) = z at *
  go_enter Try.func39, Try.ntmps39
  go_wp2
  have hx01 : Ext w (w.alloc (.cells #[.string (txtL d), .bool false] 143)) := (Ext.refl w).alloc _
  have h1 := h.ext hx01
  have hXB : Blk (w.alloc (.cells #[.string (txtL d), .bool false] 143)) w.heap.size #[.string (txtL d), .bool false] 143 := Blk.new _ _ _
  have x0 := hXB.cell 0
  have x1 := hXB.cell 1
  simp only [List.getElem?_toArray, List.getElem?_cons_zero, List.getElem?_cons_succ] at x0 x1
  have hxlt := hXB.lt
  have hrx : ¬ rb = w.heap.size := by omega
  generalize w.alloc (.cells #[.string (txtL d), .bool false] 143) = w1 at *
  generalize hxb : w.heap.size = xb at *
  clear c97 c96 c98' c99 f0
  have hlt3 : rb < w1.heap.size := h1.tail.2.2.2.2.2
  obtain ⟨v, e0, _, hnil, _⟩ := h1.own hb
  have hl0 : M.pg b = [] := List.length_eq_zero_iff.1 hn
  have hv := hnil hl0
  subst hv
  have f0 := h1.tail.2.2.2.2.1 b
  have hal0 : (w1.alloc (.cells #[.string (txtL d), .bool false] 143)).cell? ⟨rb, b, none⟩ = some (.slice none 0 0) := (held_alloc ⟨e0, f0⟩ _ _).1
  have hsc : shCells (M.pg b) = [] := by rw [hl0]; rfl
  clear hnil
  go_region_law
    (first
      | (refine step_app rfl (.tmp 97) (.tmp 99) rfl (own_nil _) rfl ⟨w1.heap.size, 0, none⟩ 1 1 [.string (txtL d), .bool false] rfl rfl ?_ ?_ ?_ ?_ (w1.heap.size + 1) ?_ ?_
         · exact news_cells (Blk.drew (Blk.new' w1 _ _ (n := w1.heap.size) rfl))
         · simp [Value.oneCell']
         · decide
         · omega
         · simp
         intro gg cap2 w3 hown3 hgrow hat hlt4
         have hh3 := held_grown (held_drew (held_alloc ⟨e0, f0⟩ #[.string (txtL d), .bool false] 143)) hgrow (by simp [Value.ownBlock])
         have hxx : Ext w1 w3 := ((Ext.refl w1).alloc _).drew.grownR hgrow (by intro k hk; cases hk)
         have hnew : ∀ k, (Value.slice (some ⟨gg, 0, none⟩) (0 + 1) cap2).ownBlock = some k → w1.heap.size ≤ k := by
           intro k hk
           simp [Value.ownBlock] at hk hat
           omega
         replace hown3 : w3.ownsRow 0 143 2 (.slice (some ⟨gg, 0, none⟩) (0 + 1) cap2) (0 + 1) (shCells (M.pg b) ++ [.string (txtL d), .bool false]) := by rw [hsc]; exact hown3
         obtain ⟨e3, f3⟩ := hh3)
      | fail)
  all_goals
    obtain ⟨hR, hgR⟩ := lay_fin (p := (.whole d)) h1 hb rfl hxx hown3 hnew
    obtain ⟨d98, d97, d96, _, g0, hltW⟩ := hR.tail
    have e98 := g0 98
    have e97 := g0 97
    have e96 := g0 96
    have hF := hR.fin
    clear g0 hR hown3 hnew
    generalize downB _ = y2 at d97
    generalize max _ (-1) = z2 at d96
    generalize tornN _ = t2 at d98
    generalize w3.setCell ⟨rb, b, none⟩ _ = W at *
    go_wp2
    go_end0
    exact ⟨rfl, hF.1, grow_trans (grow_ext hx01 _) (grow_trans hgR hF.2)⟩

end Go.Proofs.Ytpldeejagomfjaa
