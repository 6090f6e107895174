
/- The document's chip: Restart, where the erasing of a block is half done. -/
import Derived.Test.YtpldeejagomfjaaRefF
namespace Go.Proofs.Ytpldeejagomfjaa
open Go.RowKit Go.WideShapes

theorem Blk.grownR {w w' : World} {b : Nat} {r : Option Nat} {cs : Array Value} {t : TypeId} (h : Blk w b cs t) (hg : w.grownBy w' r) (hne : ¬ some b = r) : Blk w' b cs t :=
  ⟨by rw [hg.block b h.lt hne]; exact h.blk⟩
theorem upd_upd {α : Type} (f : Nat → α) (b : Nat) (x y : α) : upd (upd f b x) b y = upd f b y := by
  funext c; unfold upd; split <;> rfl
/-- The row that block b's pages lie in. -/
theorem RefAt.own {w : World} {rb : Nat} {M : CM} (h : RefAt w rb M) {b : Nat} (hb : b < 24) :
    ∃ v, w.cell? ⟨rb, b, none⟩ = some v ∧ w.ownsRow 0 143 2 v (M.pg b).length (shCells (M.pg b)) ∧ (M.pg b = [] → v = .slice none 0 0) ∧ ¬ some rb = v.ownBlock := by
  obtain ⟨rc, data, h1, h2, h3⟩ := h.cells
  obtain ⟨v, q1, q2, q3⟩ := h2.rows b hb
  refine ⟨v, by rw [h1.cell, q1], q2, q3, fun e => ?_⟩
  exact own_ne q2 e.symm h1 (by decide) rfl
/-- A page is laid behind the others, in their own row or in a new one. -/
theorem RefAt.layOwn {w0 w1 w3 : World} {rb : Nat} {M : CM} (h : RefAt w0 rb M) {b : Nat} (hb : b < 24) {v : Value} (hv0 : w0.cell? ⟨rb, b, none⟩ = some v) (hx : Ext w0 w1) (hg : w1.grownBy w3 v.ownBlock) (p : Pg) {v' : Value} {n : Nat}
    (hv : w3.ownsRow 0 143 2 v' n (shCells (M.pg b) ++ shCell p)) (hat : ∀ g, v'.ownBlock = some g → v.ownBlock = some g ∨ w0.heap.size ≤ g) :
    RefAt (w3.setCell ⟨rb, b, none⟩ v') rb (layM M b p) := by
  rw [← shCells_app] at hv
  have hn : n = (M.pg b ++ [p]).length := by
    have := hv.1
    rw [shCells_len] at this
    omega
  subst hn
  obtain ⟨rc, data, h1, h2, h3⟩ := h.cells
  obtain ⟨v2, q1, q2, q3⟩ := h2.rows b hb
  have e : v2 = v := by rw [h1.cell, q1] at hv0; simpa using hv0
  subst e
  have k1 : Blk w3 rb rc 60 := (h1.ext hx).grownR hg (fun e => own_ne q2 e.symm h1 (by decide) rfl)
  refine ⟨_, data, k1.set _ _, (((h2.ext hx).setPg hb hg v' (M.pg b ++ [p]) hv (fun e => by simp at e) ?_ ?_).stays k1 (by decide) (grow_set _ _ _ _)), h3⟩
  · intro c u g hc hne hu hgu e
    exact h2.dis c b u v2 g hc hb hne hu q1 hgu e.symm
  · intro c u g hc hne hu hgu e
    rcases hat g e with e2 | e2
    · exact h2.dis c b u v2 g hc hb hne hu q1 hgu e2
    · obtain ⟨u', r1, r2, _⟩ := h2.rows c hc
      rw [hu] at r1; cases r1
      obtain ⟨cur, hh⟩ := own_type r2 hgu
      have := lt_of_block hh
      omega
theorem grow_own {w w0 w1 w3 : World} {rb : Nat} {r : Option Nat} (h : w.grownBy w0 (some rb)) (hx : Ext w0 w1) (hg : w1.grownBy w3 r) (hr : ∀ k, r = some k → w.heap.size ≤ k) : w.grownBy w3 (some rb) := by
  have h2 := grow_trans h (grow_ext hx (some rb))
  refine ⟨hg.os.trans h2.os, hg.tape.trans h2.tape, hg.output.trans h2.output, Nat.le_trans h2.size hg.size, fun k hk hne => ?_⟩
  rw [hg.block k (Nat.lt_of_lt_of_le hk h2.size) (fun e => by have := hr k e.symm; omega)]
  exact h2.block k hk hne

theorem cell_set3 (w : World) {rb b : Nat} {u v : Value} (h : w.cell? ⟨rb, b, none⟩ = some u) : (w.setCell ⟨rb, b, none⟩ v).cell? ⟨rb, b, none⟩ = some v := by
  simp [World.cell?_setCell_same, h]

set_option maxRecDepth 100000 in
set_option maxHeartbeats 8000000 in
theorem rrestart_e1 (rb b : Nat) (M : CM) (w : World) (h : RefAt w rb M) (hb : b < 24) (hp : M.pend = some (.erase b)) (hwr : M.wr b ≤ 1000000000) :
    Calls Try.prog 39 #[.pointer (some ⟨rb, 0, none⟩), .int .i64 1] w fun e w' => e = .returned (.tuple #[]) ∧ RefAt w' rb { wipeM M b (List.replicate 8 Pg.torn) with left := -1, pend := none } ∧ w.grownBy w' (some rb) := by
  obtain ⟨c98, c97, c96, ⟨data, c99, _⟩, f0, hlt⟩ := h.tail
  rw [hp] at c98
  have c98' : w.cell? ⟨rb, 98, none⟩ = some (.int .i64 (101 + (b : Int))) := c98
  have hwp := h.wipe hb (M.wr b + 1)
  obtain ⟨so, cap, k0, _⟩ := h.row hb
  obtain ⟨_, _, k3, _, _⟩ := h.at hb
  have fb := f0 b
  have fw := f0 (24 + b)
  have f98 := f0 98
  have f97 := f0 97
  have f96 := f0 96
  have hb0 : (0 : Int) ≤ (b : Int) := by omega
  have hb24 : (b : Int) < 24 := by omega
  have hbn : 101 + (b : Int) - 101 = (b : Int) := by omega
  clear f0 c98
  generalize downB M = y at *
  generalize max M.left (-1) = z at *
  generalize hnr : M.wr b = nr at *
  have n1 : ¬ (24 + b = b) := by omega
  have n2 : ¬ (b = 24 + b) := by omega
  go_enter Try.func39, Try.ntmps39
  go_wp2
  go_big_region
  all_goals go_wp2_with fail
  have hwp2 := hwp.ext ((Ext.refl _).drew)
  have hgw : w.grownBy (((w.setCell ⟨rb, b, none⟩ (.slice none 0 0)).setCell ⟨rb, 24 + b, none⟩ (.int .i64 ((nr + 1 : Nat) : Int))).drew) (some rb) := grow_trans (grow_trans (grow_set _ _ _ _) (grow_set _ _ _ _)) (grow_ext ((Ext.refl _).drew) _)
  have hcast : ((nr + 1 : Nat) : Int) = (nr : Int) + 1 := by omega
  rw [hcast] at hwp2 hgw
  clear hwp
  generalize (((w.setCell ⟨rb, b, none⟩ (.slice none 0 0)).setCell ⟨rb, 24 + b, none⟩ (.int .i64 ((nr : Int) + 1))).drew) = W at *
  clear c97 c96 c98' k0 k3 fb fw f98 f97 f96 c99
  go_loopw [5] (fun j wx => ∃ i : Nat, i ≤ 8 ∧ j = .int .i64 i ∧ RefAt wx rb (wipeM M b (List.replicate i Pg.torn)) ∧ w.grownBy wx (some rb) ∧ ∀ v g, wx.cell? ⟨rb, b, none⟩ = some v → v.ownBlock = some g → w.heap.size ≤ g) (fun j _ => 8 - (intOf j).toNat)
  case atStart =>
    subst hnr
    refine ⟨0, by omega, rfl, hwp2, hgw, fun v g hv hg => ?_⟩
    obtain ⟨v', q1, _, q3, _⟩ := hwp2.own hb
    rw [hv] at q1; cases q1
    rw [q3 (upd_same _ _ _)] at hg
    cases hg
  case round =>
    clear hwp2 hgw
    obtain ⟨i, hi8, rfl, hR, hgx, hown⟩ := hrel
    by_cases hlt8 : i < 8
    · have hlt8' : (i : Int) < 8 := by omega
      obtain ⟨v, e0, hv, _, hne⟩ := hR.own hb
      have hge := hown v
      have f0 := hR.tail.2.2.2.2.1 b
      have hltx := hR.tail.2.2.2.2.2
      have hpg : (wipeM M b (List.replicate i Pg.torn)).pg b = List.replicate i Pg.torn := upd_same _ _ _
      rw [hpg, List.length_replicate] at hv
      have hal0 : (wr.alloc (.cells #[.string ⟨#[]⟩, .bool true] 143)).cell? ⟨rb, b, none⟩ = some v := (held_alloc ⟨e0, f0⟩ _ _).1
      have HV : Hid (wr.ownsRow 0 143 2 v i (shCells (List.replicate i Pg.torn))) := hv
      have HR2 : Hid (RefAt wr rb (wipeM M b (List.replicate i Pg.torn))) := hR
      have HG : Hid (∀ g, wr.cell? ⟨rb, b, none⟩ = some v → v.ownBlock = some g → w.heap.size ≤ g) := hge
      have HNE : Hid (¬ some rb = v.ownBlock) := hne
      clear hown hv hR hge hne
      go_wp2_with fail
      go_region_law
        (first
          | (refine step_app rfl (.tmp 56) (.tmp 58) rfl ((HV.out.alloc _).drew) rfl ⟨wr.heap.size, 0, none⟩ 1 1 [.string ⟨#[]⟩, .bool true] rfl rfl ?_ ?_ ?_ ?_ (wr.heap.size + 1) ?_ ?_
             · exact news_cells (Blk.drew (Blk.new' wr _ _ (n := wr.heap.size) rfl))
             · simp [Value.oneCell']
             · decide
             · omega
             · simp
             intro gg cap2 w3 hown3 hgrow hat hlt4
             obtain ⟨e3, f3⟩ := held_grown (held_drew (held_alloc ⟨e0, f0⟩ _ _)) hgrow HNE.out)
          | fail)
      all_goals
        have hx1 : Ext wr ((wr.alloc (.cells #[.string ⟨#[]⟩, .bool true] 143)).drew) := ((Ext.refl wr).alloc _).drew
        have hfin := HR2.out.layOwn hb e0 hx1 hgrow Pg.torn (by rw [hpg]; exact hown3) (fun g hg => by
          simp [Value.ownBlock] at hg
          subst hg
          rcases hat with hat | hat
          · exact .inl hat
          · exact .inr (by omega))
        have hgf := grow_trans (grow_own hgx hx1 hgrow (fun k hk => HG.out k e0 hk)) (grow_set w3 rb b (.slice (some ⟨gg, 0, none⟩) (i + 1) cap2))
        have hbf : ∀ g, v.ownBlock = some g → w.heap.size ≤ g := fun g => HG.out g e0
      all_goals go_wp2
      all_goals go_roundw
      all_goals first
        | (refine ⟨i + 1, by omega, by go_num, ?_, hgf, ?_⟩
           · have e : layM (wipeM M b (List.replicate i Pg.torn)) b Pg.torn = wipeM M b (List.replicate (i + 1) Pg.torn) := by
               unfold layM
               rw [hpg]
               unfold wipeM
               simp only [upd_upd, List.replicate_succ']
             rw [← e]; exact hfin
           · intro u g hu hg
             rw [cell_set3 w3 e3] at hu
             cases hu
             simp [Value.ownBlock] at hg
             subst hg
             rcases hat with hat | hat
             · exact hbf _ hat
             · have := hgx.size; omega)
        | (simp [intOf]; omega)
    · have hi : i = 8 := by omega
      subst hi
      obtain ⟨d98, d97, d96, _, g0, hltW⟩ := hR.tail
      have e98 := g0 98
      have e97 := g0 97
      have e96 := g0 96
      have hF := hR.fin
      clear g0 hR hown
      generalize downB _ = y2 at d97
      generalize max _ (-1) = z2 at d96
      generalize tornN _ = t2 at d98
      go_wp2
      go_end0
      exact ⟨rfl, hF.1, grow_trans hgx hF.2⟩
end Go.Proofs.Ytpldeejagomfjaa
