/- StoQ. -/
import Derived.Test.YtjeinblcpejpnabGreatDoorStoJJ
import Derived.Test.YtjeinblcpejpnabGreatDoorStoPJ

/- A store in memory: tables are put together. -/
namespace Go.Proofs.YtjeinblcpejpnabGreatDoor
open Go.RowKit Go.WideShapes

theorem GlobT.lt {w : World} (h : GlobT w) : 1 < w.heap.size := by
  obtain ⟨f, hf⟩ := h
  have hc := (hf 0 (by omega)).1
  rcases Nat.lt_or_ge 1 w.heap.size with h' | h'
  · exact h'
  · simp [World.cell?, Array.getElem?_eq_none h'] at hc
/-- The chip alone changes. -/
theorem StoAt.chg {w w' : World} {S : List Nat} {sb cb : Nat} {M M' : CM} {m : Man} {a : Nat} {x : SMem} (h : StoAt w S sb cb M m a x) (hK : Kp w w' [cb]) (hc : ChipAt w' cb M') : StoAt w' S sb cb M' m a x :=
  ⟨hc, h.glob.kp hK (fun hm => by simp at hm; exact h.gS (hm ▸ h.cS.1)), hK.Blk h.blk (by simp [h.sc]), h.nw.kp hK (fun p e => by simp [(h.d1 p e).1]), h.od.kp hK (fun p e => by simp [(h.d2 p e).1]), h.tow.kp hK (fun b hb => by simp [(h.ts b hb).1]), h.sc, h.ts, h.d1, h.d2, h.cS, h.tS, h.aS, h.gS, fun b hb => Nat.lt_of_lt_of_le (h.lt b hb) hK.size⟩
/-- What is new lies apart from a store. -/
theorem StoAt.apart {w w' : World} {S : List Nat} {sb cb : Nat} {M : CM} {m : Man} {a : Nat} {x : SMem} (h : StoAt w S sb cb M m a x) {no : Option Addr} (hn : ∀ p, no = some p → w.heap.size ≤ p.block ∧ p.block < w'.heap.size) : Apart w' sb cb x no := by
  have hc := h.lt _ h.cS.1
  have hs := h.lt _ h.cS.2
  refine ⟨fun p e => ?_, fun p e => (hn p e).2, fun p e => ?_⟩
  · have := (hn p e).1
    exact ⟨by omega, by omega, fun hm => by have := h.lt _ (h.tS _ hm); omega⟩
  · have := (hn p e).1
    have := h.glob.lt
    omega
set_option maxRecDepth 20000 in
set_option maxHeartbeats 2000000 in
theorem note_fell (w : World) (S : List Nat) (sb cb : Nat) (M : CM) (m : Man) (a : Nat) (x : SMem) (m' : Man) (e0 : Int) (no oo : Option Addr) (nc oc : Nat) (h : StoAt w S sb cb M m a x) (ha : a ≤ 1) (hub : M.left ≤ 9223372036854775807) (hwr : WrOk M) (hep : m'.ep = m.ep + 1) (hep2 : m'.ep ≤ 100000) (hep0 : 0 ≤ m.ep) (hf : manFault m' = 0)
    (hn : NumsAt w no m'.nw) (ho : NumsAt w oo m'.od) (hE : noteE M a (manTxt m') = 9) :
    Calls Tryz.prog 54 #[.pointer (some ⟨sb, 0, none⟩), .agg #[.int .i64 e0, .int .i64 m'.lg, .slice no m'.nw.length nc, .slice oo m'.od.length oc]] w fun e w' => e = .returned (.iface 88 (.int .i64 9)) ∧ ChipAt w' cb (noteM M a (manTxt m')) ∧ Kp w w' [cb] := by
  have k0 := h.blk.cell 0
  have k1 := h.blk.cell 1
  have k5 := h.blk.cell 5
  simp [storeC] at k0 k1 k5
  have hxb : Ext w (w.alloc (.cells #[.int .i64 m'.ep, .int .i64 m'.lg, .slice no m'.nw.length nc, .slice oo m'.od.length oc] 65)) := (Ext.refl w).alloc _
  have CN : Hid (∀ W, Ext w W → Calls Tryz.prog 87 #[.pointer (some ⟨cb, 0, none⟩), .int .i64 (a : Int), .agg #[.int .i64 m'.ep, .int .i64 m'.lg, .slice no m'.nw.length nc, .slice oo m'.od.length oc]] W fun e w' => e = .returned (.tuple #[.int .i64 0, .iface 88 (.int .i64 9)]) ∧ ChipAt w' cb (noteM M a (manTxt m')) ∧ W.grownBy w' (some cb)) := fun W hx => by
    refine (note_any cb a M m' no oo nc oc W (h.chip.ext hx) ha hub hwr (hn.ext hx) (ho.ext hx) hf).mono ?_
    rintro e w' ⟨h1, h2, h3⟩
    rcases h1 with ⟨h1, _⟩ | ⟨_, h1⟩
    · rw [hE] at h1; cases h1
    · rw [hE] at h1; exact ⟨h1, h2, h3⟩
  have HH : Hid (StoAt w S sb cb M m a x) := h
  have hslt : sb < w.heap.size := h.blk.lt
  have hclt : cb < w.heap.size := h.chip.lt
  have hsc := h.sc
  have hep3 : m.ep + 1 ≤ 100000 := by omega
  rw [hep] at CN hxb
  clear h hub hwr hf hn ho hE hep hep2
  generalize noteM M a (manTxt m') = M2 at *
  go_enter Tryz.func54, Tryz.ntmps54
  go_wp2
  have bx : Blk (w.alloc (.cells #[.int .i64 (m.ep + 1), .int .i64 m'.lg, .slice no m'.nw.length nc, .slice oo m'.od.length oc] 65)) w.heap.size #[.int .i64 (m.ep + 1), .int .i64 m'.lg, .slice no m'.nw.length nc, .slice oo m'.od.length oc] 65 := Blk.new _ _ _
  have z0 := hxb.cell k0
  have z5 := hxb.cell k5
  generalize w.alloc (.cells #[.int .i64 (m.ep + 1), .int .i64 m'.lg, .slice no m'.nw.length nc, .slice oo m'.od.length oc] 65) = wa at *
  have y0 := bx.cell 0
  have y1 := bx.cell 1
  have y2 := bx.cell 2
  have y3 := bx.cell 3
  simp at y0 y1 y2 y3
  have hwb : ¬ w.heap.size = cb := by omega
  have HB3 : Hid (∀ W W', Ext wa W → W.grownBy W' (some cb) → Blk W' sb (storeC cb m a x) 75 ∧ Blk W' w.heap.size #[.int .i64 (m.ep + 1), .int .i64 m'.lg, .slice no m'.nw.length nc, .slice oo m'.od.length oc] 65) := fun W W' hx hg => ⟨((HH.out.blk.ext hxb).ext hx).grown hg hsc, (bx.ext hx).grown hg hwb⟩
  have HKP : Hid (∀ W W', Ext wa W → W.grownBy W' (some cb) → Kp w W' [cb]) := fun W W' hx hg => (Kp.ofExt (hxb.trans hx) _).trans (Kp.grown hg)
  have HXB : Hid (Ext w wa) := hxb
  clear hxb k0 k1 k5 bx
  go_region_held3 (fun w' => (w'.cell? ⟨sb, 0, none⟩ = some (.pointer (some ⟨cb, 0, none⟩)) ∧ w'.cell? ⟨sb, 5, none⟩ = some (.int .i64 (a : Int))) ∧ (w'.cell? ⟨w.heap.size, 0, none⟩ = some (.int .i64 (m.ep + 1)) ∧ w'.cell? ⟨w.heap.size, 1, none⟩ = some (.int .i64 m'.lg) ∧ w'.cell? ⟨w.heap.size, 2, none⟩ = some (.slice no m'.nw.length nc) ∧ w'.cell? ⟨w.heap.size, 3, none⟩ = some (.slice oo m'.od.length oc)))
    (first | (go_keep; done) | exact ⟨⟨hB3.1.cell 0, hB3.1.cell 5⟩, hB3.2.cell 0, hB3.2.cell 1, hB3.2.cell 2, hB3.2.cell 3⟩)
    (first | (go_at_call 87; refine (CN.out _ (HXB.out.trans (by repeat (first | exact Ext.refl _ | refine Ext.drew ?_ | refine Ext.drewN ?_ _ | refine Ext.alloc ?_ _)))).mono ?_; rintro e w3 ⟨rfl, hc3, hg3⟩; have hB3 := HB3.out _ _ (by repeat (first | exact Ext.refl _ | refine Ext.drew ?_ | refine Ext.drewN ?_ _ | refine Ext.alloc ?_ _)) hg3; have hK3 := HKP.out _ _ (by repeat (first | exact Ext.refl _ | refine Ext.drew ?_ | refine Ext.drewN ?_ _ | refine Ext.alloc ?_ _)) hg3))
  clear HB3 HKP hg3 hB3 CN z0 z5 y0 y1 y2 y3
  go_wp2
  go_ret
  exact ⟨rfl, hc3, hK3⟩
end Go.Proofs.YtjeinblcpejpnabGreatDoor
