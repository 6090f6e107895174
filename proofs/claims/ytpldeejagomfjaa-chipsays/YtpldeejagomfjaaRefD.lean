
/- The document's chip: Write, where a page is written. -/
import Derived.Test.YtpldeejagomfjaaRefC
import Derived.Deep.RegionLaw
namespace Go.Proofs.Ytpldeejagomfjaa
open Go.RowKit Go.WideShapes

theorem Ext.grownR {a b c : World} {row : Option Nat} (h : Ext a b) (hg : b.grownBy c row) (hr : ∀ k, row = some k → a.heap.size ≤ k) : Ext a c := ⟨h.below.grown hg h.size hr⟩
theorem own_nil (w : World) : w.ownsRow 0 143 2 (.slice none 0 0) 0 [] := ⟨rfl, .inl ⟨rfl, rfl⟩⟩
theorem own_news {w : World} {g : Nat} {cur : Array Value} {t : TypeId} {n : Nat} {xs : List Value} (h : Blk w g cur t) (ht : cur.toList.take n = xs) : ∀ j u, xs[j]? = some u → w.cell? ((⟨g, 0, none⟩ : Addr).add j) = some u := by
  intro j u hj
  rw [add_plain, Nat.zero_add, h.cell]
  rw [← ht] at hj
  have hjn : j < n := by
    have := (List.getElem?_eq_some_iff.1 hj).1
    rw [List.length_take] at this; omega
  rw [List.getElem?_take_of_lt hjn] at hj
  simpa using hj

theorem Try.info143 : ∃ i, Try.prog.info? 143 = some i ∧ i.zero = some (.agg #[.string ⟨#[]⟩, .bool false]) ∧ i.size = 2 ∧ i.bytes = 24 := by
  obtain ⟨i, hi, hz⟩ := Option.map_eq_some_iff.1 (show (Try.prog.info? 143).map (fun i => (i.zero, i.size, i.bytes)) = some (some (.agg #[.string ⟨#[]⟩, .bool false]), 2, 24) by kernel_rfl)
  simp only [Prod.mk.injEq] at hz
  exact ⟨i, hi, hz.1, hz.2.1, hz.2.2⟩
/-- append of sheets, in a region that draws. -/
theorem step_app {ops : Array Oper} {o : Oper} {a : Act} {K : Act → World → Prop} {Q : Exit → Act → World → Prop} {E : Prop} {w : World} (hgd : o.guard = none) (s x : Operand)
    (ho : o.op = .call { callee := .builtin .append, args := #[s, x], argTypes := #[55, 55] }) {v : Value} {n : Nat} {xs : List Value} (hown : w.ownsRow 0 143 2 v n xs) (hs : a.eval s = v)
    (ad : Addr) (m c : Nat) (news : List Value) (hx : a.eval x = .slice (some ad) m c) (hl : news.length = m * 2) (hnews : ∀ j u, news[j]? = some u → w.cell? (ad.add j) = some u) (h1 : ∀ u ∈ news, u.oneCell' = true)
    (hm : 0 < m) (h16 : n + m ≤ 16) (H : Nat) (hH : w.heap.size = H)
    (h : ∀ g cap w', w'.ownsRow 0 143 2 (.slice (some ⟨g, 0, none⟩) (n + m) cap) (n + m) (xs ++ news) → w.grownBy w' v.ownBlock → (v.ownBlock = some g ∨ g = H) → g < w'.heap.size → K (a.put o.dst (.slice (some ⟨g, 0, none⟩) (n + m) cap)) w') :
    if Region.wanted o (yielded ops a.tmps) = true then Oper.wp Try.prog o a w K Q else E := by
  obtain ⟨i, hi, hz0, hz1, hz2⟩ := Try.info143
  exact step_append_lies w hgd s x 55 ho 0 143 i _ 2 24 Try.underlying55 hi hz0 hz1 hz2 rfl (by decide) v n xs hs hown ad m c news hx hl hnews h1 hm (by unfold maxLen; omega) (by omega) (Nat.zero_le _) H hH h

/-- .. onto nil. -/
theorem step_app0 {ops : Array Oper} {o : Oper} {a : Act} {K : Act → World → Prop} {Q : Exit → Act → World → Prop} {E : Prop} {w : World} (hgd : o.guard = none) (s x : Operand)
    (ho : o.op = .call { callee := .builtin .append, args := #[s, x], argTypes := #[55, 55] }) (hs : a.eval s = .slice none 0 0)
    (ad : Addr) (m c : Nat) (news : List Value) (hx : a.eval x = .slice (some ad) m c) (hl : news.length = m * 2) (hnews : ∀ j u, news[j]? = some u → w.cell? (ad.add j) = some u) (h1 : ∀ u ∈ news, u.oneCell' = true)
    (hm : 0 < m) (h16 : m ≤ 16) (H : Nat) (hH : w.heap.size = H)
    (h : ∀ g cap w', w'.ownsRow 0 143 2 (.slice (some ⟨g, 0, none⟩) m cap) m news → w.grownBy w' none → g = H → g < w'.heap.size → K (a.put o.dst (.slice (some ⟨g, 0, none⟩) m cap)) w') :
    if Region.wanted o (yielded ops a.tmps) = true then Oper.wp Try.prog o a w K Q else E := by
  refine step_app hgd s x ho (own_nil w) hs ad m c news hx hl hnews h1 hm (by omega) H hH ?_
  intro g cap w' h2 h3 h4 h5
  rw [Nat.zero_add, List.nil_append] at h2
  rw [Nat.zero_add]
  exact h g cap w' h2 h3 (by simpa [Value.ownBlock] using h4) h5

/-- A cell that can be read and written. -/
theorem held_drew {w : World} {rb b : Nat} {v : Value} (h : w.cell? ⟨rb, b, none⟩ = some v ∧ w.frozen? ⟨rb, b, none⟩ = false) : w.drew.cell? ⟨rb, b, none⟩ = some v ∧ w.drew.frozen? ⟨rb, b, none⟩ = false := h
theorem held_alloc {w : World} {rb b : Nat} {v : Value} (h : w.cell? ⟨rb, b, none⟩ = some v ∧ w.frozen? ⟨rb, b, none⟩ = false) (c : Array Value) (t : TypeId) :
    (w.alloc (.cells c t)).cell? ⟨rb, b, none⟩ = some v ∧ (w.alloc (.cells c t)).frozen? ⟨rb, b, none⟩ = false :=
  ⟨((Ext.refl w).alloc _).cell h.1, by rw [frozen?_alloc_cells]; exact h.2⟩
theorem held_grown {w w' : World} {rb b : Nat} {v : Value} {r : Option Nat} (h : w.cell? ⟨rb, b, none⟩ = some v ∧ w.frozen? ⟨rb, b, none⟩ = false) (hg : w.grownBy w' r) (hr : ¬ some rb = r) :
    w'.cell? ⟨rb, b, none⟩ = some v ∧ w'.frozen? ⟨rb, b, none⟩ = false := by
  have hlt := lt_of_cell2 h.1
  exact ⟨by rw [hg.cell_far _ hlt hr]; exact h.1, by rw [hg.frozen_far _ hlt hr]; exact h.2⟩

theorem lay_fin {w1 w3 : World} {rb b : Nat} {M : CM} {l : List Pg} {p : Pg} {v : Value} {n : Nat} (h : RefAt w1 rb M) (hb : b < 24) (hl : M.pg b = l) (hx : Ext w1 w3) (hv : w3.ownsRow 0 143 2 v n (shCells l ++ shCell p)) (hnew : ∀ g, v.ownBlock = some g → w1.heap.size ≤ g) :
    RefAt (w3.setCell ⟨rb, b, none⟩ v) rb (layM M b p) ∧ w1.grownBy (w3.setCell ⟨rb, b, none⟩ v) (some rb) := by
  rw [← shCells_app] at hv
  have hn : n = (l ++ [p]).length := by
    have := hv.1
    rw [shCells_len] at this
    omega
  subst hn
  have := h.lay hb hx v (l ++ [p]) hv (fun e => by simp at e) hnew
  unfold layM
  rw [hl]
  exact this

set_option maxRecDepth 100000 in
set_option maxHeartbeats 4000000 in
theorem rwrite_go0 (rb b : Nat) (s : ByteArray) (M : CM) (w : World) (h : RefAt w rb M) (hub : M.left ≤ 9223372036854775807) (hr : readyE M (b : Int) = 0) (hb : b < 24) (h64 : s.size ≤ 64) (hwk : M.wk b = false) (hl0 : ¬ M.left = 0)
    (hn : (M.pg b).length = 0) :
    Calls Try.prog 32 #[.pointer (some ⟨rb, 0, none⟩), .int .i64 (b : Int), .string s] w fun e w' => e = .returned (.int .i64 (writeE M (b : Int) s)) ∧ RefAt w' rb (writeM M (b : Int) s) ∧ w.grownBy w' (some rb) := by
  have hb0 : (0 : Int) ≤ (b : Int) := by omega
  have hb24 : (b : Int) < 24 := by omega
  have HR : Hid (readyE M (b : Int) = 0) := hr
  obtain ⟨hpn, _, _⟩ := ready_zero hr
  clear hr
  have HE : Hid (writeE M (b : Int) s = 0 ∧ writeM M (b : Int) s = layM (tickM M) b (.whole (padD s))) := by
    have := writeE_go HR.out h64 (by omega) hwk
    rw [if_neg hl0, if_neg hl0] at this; exact this
  have h64' : ¬ 64 < (s.size : Int) := by omega
  obtain ⟨so, cap, c0, _⟩ := h.row hb
  obtain ⟨c1, c2, _, f0, hlt⟩ := h.at hb
  rw [hwk] at c1
  have hl0' : (M.pg b) = [] := List.length_eq_zero_iff.1 hn
  rw [hn] at c0
  have hn64 : (64 : Int) - (s.size : Int) = ((64 - s.size : Nat) : Int) := by omega
  have hmk := run_make_row' (P := Try.prog) 125 5 (.int .u8 0) 1 Try.underlying125 Try.info5 rfl .i64 .i64 (64 - s.size) (by omega) (by omega)
  rw [made_zz s (64 - s.size) rfl] at hmk
  have hzl : (zz s).length = 64 - s.size := by simp [zz]
  have hcv : (convert 125 9 (.slice (some ⟨w.heap.size, 0, none⟩) (64 - s.size) (64 - s.size))).run Try.prog (w.alloc (.cells (Lib.byteCells (zz s)).toArray 5)) = .ok (.string (txtL (zz s))) (w.alloc (.cells (Lib.byteCells (zz s)).toArray 5)) := by
    have := conv_blk2 (l := zz s) (cap := 64 - s.size) (Blk.new w (Lib.byteCells (zz s)).toArray 5)
    rw [hzl] at this; exact this
  have hx : Ext w (w.alloc (.cells (Lib.byteCells (zz s)).toArray 5)) := (Ext.refl w).alloc _
  have h2 := h.ext hx
  have hpad := pad_txt s
  have hzs := zz_size s
  have HW : Hid (w.grownBy (w.alloc (.cells (Lib.byteCells (zz s)).toArray 5)) (some rb)) := grow_ext hx _
  generalize hW : w.alloc (.cells (Lib.byteCells (zz s)).toArray 5) = W at *
  go_enter Try.func32, Try.ntmps32
  go_wp2_with (first
    | (go_at_call 89; refine (rready_ok rb b M _ h HR.out).mono ?_; rintro e w' ⟨rfl, rfl⟩)
    | (go_at_call 90; refine (rfalls_go rb M _ h2 hl0 hub).mono ?_; rintro e w1 ⟨rfl, h3, hg3⟩))
  clear c0 c1 c2 f0 hcv hmk h h2 hx hW
  have hpg : (tickM M).pg b = [] := by rw [tick_pg]; exact hl0'
  have hlt3 : rb < w1.heap.size := by obtain ⟨rc, data, k1, _⟩ := h3.cells; exact k1.lt
  obtain ⟨e0, f0⟩ : w1.cell? ⟨rb, b, none⟩ = some (.slice none 0 0) ∧ w1.frozen? ⟨rb, b, none⟩ = false := by
    obtain ⟨rc, data, k1, k2, _⟩ := h3.cells
    obtain ⟨v, q1, _, q3⟩ := k2.rows b hb
    refine ⟨?_, k1.free _⟩
    rw [k1.cell, q1, q3 hpg]
  have hal0 : (w1.alloc (.cells #[.string (txtL (padD s)), .bool false] 143)).cell? ⟨rb, b, none⟩ = some (.slice none 0 0) := (held_alloc ⟨e0, f0⟩ _ _).1
  go_region_law
    (first
      | (refine step_app rfl (.tmp 64) (.tmp 67) rfl (own_nil _) rfl ⟨w1.heap.size, 0, none⟩ 1 1 [.string (txtL (padD s)), .bool false] rfl rfl ?_ ?_ ?_ ?_ (w1.heap.size + 1) ?_ ?_
         · exact news_cells (Blk.drew (Blk.new' w1 _ _ (n := w1.heap.size) rfl))
         · simp [Value.oneCell']
         · decide
         · omega
         · simp
         intro gg cap2 w3 hown3 hgrow hat hlt3
         obtain ⟨e3, f3⟩ := held_grown (held_drew (held_alloc ⟨e0, f0⟩ _ _)) hgrow (by simp [Value.ownBlock]))
      | fail)
  all_goals go_wp2
  all_goals go_ret
  all_goals exact ⟨by rw [HE.out.1]; rfl, by rw [HE.out.2]; exact (lay_fin h3 hb hpg (((Ext.refl w1).alloc _).drew.grownR hgrow (by intro k hk; cases hk)) hown3 (by intro g hg; simp [Value.ownBlock] at hg hat; omega)).1, grow_trans HW.out (grow_trans hg3 (lay_fin (p := .whole (padD s)) h3 hb hpg (((Ext.refl w1).alloc _).drew.grownR hgrow (by intro k hk; cases hk)) hown3 (by intro g hg; simp [Value.ownBlock] at hg hat; omega)).2)⟩

set_option maxRecDepth 100000 in
set_option maxHeartbeats 8000000 in
theorem rwrite_go1 (rb b : Nat) (s : ByteArray) (M : CM) (w : World) (h : RefAt w rb M) (hub : M.left ≤ 9223372036854775807) (hr : readyE M (b : Int) = 0) (hb : b < 24) (h64 : s.size ≤ 64) (hwk : M.wk b = false) (hl0 : ¬ M.left = 0)
    (hn : ¬ (M.pg b).length = 0) (h8 : (M.pg b).length < 8) :
    Calls Try.prog 32 #[.pointer (some ⟨rb, 0, none⟩), .int .i64 (b : Int), .string s] w fun e w' => e = .returned (.int .i64 (writeE M (b : Int) s)) ∧ RefAt w' rb (writeM M (b : Int) s) ∧ w.grownBy w' (some rb) := by
  have hb0 : (0 : Int) ≤ (b : Int) := by omega
  have hb24 : (b : Int) < 24 := by omega
  have HR : Hid (readyE M (b : Int) = 0) := hr
  obtain ⟨hpn, _, _⟩ := ready_zero hr
  clear hr
  have HE : Hid (writeE M (b : Int) s = 0 ∧ writeM M (b : Int) s = layM (tickM M) b (.whole (padD s))) := by
    have := writeE_go HR.out h64 (by omega) hwk
    rw [if_neg hl0, if_neg hl0] at this; exact this
  have h64' : ¬ 64 < (s.size : Int) := by omega
  obtain ⟨so, cap, c0, _⟩ := h.row hb
  obtain ⟨c1, c2, _, f0, hlt⟩ := h.at hb
  rw [hwk] at c1
  have hf8 : (((M.pg b).length : Int) == 8) = false := by simp; omega
  have hn64 : (64 : Int) - (s.size : Int) = ((64 - s.size : Nat) : Int) := by omega
  have hmk := run_make_row' (P := Try.prog) 125 5 (.int .u8 0) 1 Try.underlying125 Try.info5 rfl .i64 .i64 (64 - s.size) (by omega) (by omega)
  rw [made_zz s (64 - s.size) rfl] at hmk
  have hzl : (zz s).length = 64 - s.size := by simp [zz]
  have hcv : (convert 125 9 (.slice (some ⟨w.heap.size, 0, none⟩) (64 - s.size) (64 - s.size))).run Try.prog (w.alloc (.cells (Lib.byteCells (zz s)).toArray 5)) = .ok (.string (txtL (zz s))) (w.alloc (.cells (Lib.byteCells (zz s)).toArray 5)) := by
    have := conv_blk2 (l := zz s) (cap := 64 - s.size) (Blk.new w (Lib.byteCells (zz s)).toArray 5)
    rw [hzl] at this; exact this
  have hx : Ext w (w.alloc (.cells (Lib.byteCells (zz s)).toArray 5)) := (Ext.refl w).alloc _
  have h2 := h.ext hx
  have hpad := pad_txt s
  have hzs := zz_size s
  have HW : Hid (w.grownBy (w.alloc (.cells (Lib.byteCells (zz s)).toArray 5)) (some rb)) := grow_ext hx _
  generalize hW : w.alloc (.cells (Lib.byteCells (zz s)).toArray 5) = W at *
  go_enter Try.func32, Try.ntmps32
  go_wp2_with (first
    | (go_at_call 89; refine (rready_ok rb b M _ h HR.out).mono ?_; rintro e w' ⟨rfl, rfl⟩)
    | (go_at_call 90; refine (rfalls_go rb M _ h2 hl0 hub).mono ?_; rintro e w1 ⟨rfl, h3, hg3⟩))
  clear c0 c1 c2 f0 hcv hmk h h2 hx hW
  have hlt3 : rb < w1.heap.size := by obtain ⟨rc, data, k1, _⟩ := h3.cells; exact k1.lt
  obtain ⟨g, cap, cur, e0, f0, hB, htk, hgr⟩ : ∃ g cap cur, w1.cell? ⟨rb, b, none⟩ = some (.slice (some ⟨g, 0, none⟩) (M.pg b).length cap) ∧ w1.frozen? ⟨rb, b, none⟩ = false ∧ Blk w1 g cur 143 ∧ cur.toList.take ((M.pg b).length * 2) = shCells (M.pg b) ∧ ¬ g = rb := by
    obtain ⟨rc, data, k1, k2, _⟩ := h3.cells
    obtain ⟨v, q1, q2, _⟩ := k2.rows b hb
    rw [tick_pg] at q2
    rcases q2.2 with ⟨_, q⟩ | ⟨g, cap', cur, rfl, _, hh, _, _, _, q⟩
    · exact absurd q hn
    · exact ⟨g, cap', cur, by rw [k1.cell, q1], k1.free _, ⟨hh⟩, q, own_ne q2 rfl k1 (by decide)⟩
  have hsl := shCells_len (M.pg b)
  have hso := shCells_one (M.pg b)
  have hpg : (tickM M).pg b = M.pg b := by rw [tick_pg]
  have HPG : Hid ((tickM M).pg b = M.pg b) := hpg
  have HTK : Hid (cur.toList.take ((M.pg b).length * 2) = shCells (M.pg b)) := htk
  have HSO : Hid (∀ v ∈ shCells (M.pg b), v.oneCell' = true) := hso
  have hal0 : (w1.alloc (.cells #[.string (txtL (padD s)), .bool false] 143)).cell? ⟨rb, b, none⟩ = some (.slice (some ⟨g, 0, none⟩) (M.pg b).length cap) := (held_alloc ⟨e0, f0⟩ _ _).1
  clear hpg htk hso hf8
  generalize hN : shCells (M.pg b) = news at *
  generalize hn' : (M.pg b).length = n at *
  have hpos : 0 < n := by omega
  go_region_law
    (first
      | (refine step_app0 rfl (.const (.slice none 0 0)) (.tmp 63) rfl rfl ⟨g, 0, none⟩ n cap news rfl ?_ ?_ HSO.out ?_ ?_ w1.heap.size ?_ ?_
         · exact hsl
         · exact own_news (Blk.drew hB) HTK.out
         · exact hpos
         · omega
         · simp
         intro g1 cap1 w2 hown1 hgrow1 hat1 hlt1
         subst hat1
         have hA1 : Ext w1 w2 := (Ext.refl w1).drew.grownR hgrow1 (by intro k hk; cases hk)
         have hh1 := held_grown (held_drew ⟨e0, f0⟩) hgrow1 (by simp))
      | (refine step_app0 rfl (.const (.slice none 0 0)) (.tmp 63) rfl rfl ⟨g, 0, none⟩ n cap news rfl ?_ ?_ HSO.out ?_ ?_ (w1.heap.size + 1) ?_ ?_
         · exact hsl
         · exact own_news (Blk.drew (hB.alloc _)) HTK.out
         · exact hpos
         · omega
         · simp
         intro g1 cap1 w2 hown1 hgrow1 hat1 hlt1
         subst hat1
         have hA2 : Ext w1 w2 := ((Ext.refl w1).alloc _).drew.grownR hgrow1 (by intro k hk; cases hk)
         have hBn : Blk w2 w1.heap.size #[.string (txtL (padD s)), .bool false] 143 := ⟨by rw [hgrow1.block _ (by simp) (by simp)]; exact (Blk.new w1 #[.string (txtL (padD s)), .bool false] 143).blk⟩
         have hh1 := held_grown (held_drew (held_alloc ⟨e0, f0⟩ #[.string (txtL (padD s)), .bool false] 143)) hgrow1 (by simp))
      | (refine step_app rfl (.tmp 64) (.tmp 67) rfl (hown1.alloc _) rfl ⟨w2.heap.size, 0, none⟩ 1 1 [.string (txtL (padD s)), .bool false] rfl rfl ?_ ?_ ?_ ?_ (w2.heap.size + 1) ?_ ?_
         · exact news_cells (Blk.new' w2 _ _ (n := w2.heap.size) rfl)
         · simp [Value.oneCell']
         · decide
         · omega
         · simp
         intro gg cap2 w3 hown3 hgrow hat hlt4
         have hh3 := held_grown (held_alloc hh1 #[.string (txtL (padD s)), .bool false] 143) hgrow (by simp [Value.ownBlock]; omega)
         have hxx : Ext w1 w3 := (hA1.alloc _).grownR hgrow (by intro k hk; simp [Value.ownBlock] at hk; omega)
         have hnew : ∀ k, (Value.slice (some ⟨gg, 0, none⟩) (n + 1) cap2).ownBlock = some k → w1.heap.size ≤ k := by
           intro k hk
           have := hA1.size
           simp [Value.ownBlock] at hk hat
           omega
         obtain ⟨e3, f3⟩ := hh3)
      | (refine step_app rfl (.tmp 64) (.tmp 67) rfl hown1 rfl ⟨w1.heap.size, 0, none⟩ 1 1 [.string (txtL (padD s)), .bool false] rfl rfl ?_ ?_ ?_ ?_ w2.heap.size ?_ ?_
         · exact news_cells hBn
         · simp [Value.oneCell']
         · decide
         · omega
         · rfl
         intro gg cap2 w3 hown3 hgrow hat hlt4
         have hh3 := held_grown hh1 hgrow (by simp [Value.ownBlock]; omega)
         have hxx : Ext w1 w3 := hA2.grownR hgrow (by intro k hk; simp [Value.ownBlock] at hk; omega)
         have hnew : ∀ k, (Value.slice (some ⟨gg, 0, none⟩) (n + 1) cap2).ownBlock = some k → w1.heap.size ≤ k := by
           intro k hk
           have := hA2.size
           simp [Value.ownBlock] at hk hat
           omega
         obtain ⟨e3, f3⟩ := hh3)
      | fail)
  all_goals go_wp2
  all_goals go_ret
  all_goals subst hN
  all_goals exact ⟨by rw [HE.out.1]; rfl, by rw [HE.out.2]; exact (lay_fin (p := .whole (padD s)) h3 hb HPG.out hxx hown3 hnew).1, grow_trans HW.out (grow_trans hg3 (lay_fin (p := .whole (padD s)) h3 hb HPG.out hxx hown3 hnew).2)⟩

end Go.Proofs.Ytpldeejagomfjaa
