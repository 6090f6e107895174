/- StoJ. -/
import Derived.Test.YtjeinblcpejpnabGreatDoorStoIJ
import Derived.Test.YtjeinblcpejpnabGreatDoorStoEJ

/- A store in memory: a manifest is noted. -/
namespace Go.Proofs.YtjeinblcpejpnabGreatDoor
open Go.RowKit Go.WideShapes

def addrB (o : Option Addr) : List Nat := o.toList.map (·.block)
theorem mem_addrB {o : Option Addr} {b : Nat} : b ∈ addrB o ↔ ∃ p, o = some p ∧ p.block = b := by
  cases o <;> simp [addrB, eq_comm]
def withA (x : SMem) (no : Option Addr) (nc : Nat) (oo : Option Addr) (oc : Nat) : SMem := ⟨no, nc, oo, oc, x.hb, x.ns⟩
/-- A slice of numbers lies apart from a store. -/
structure Apart (w : World) (sb cb : Nat) (x : SMem) (no : Option Addr) : Prop where
  d : ∀ p, no = some p → ¬ p.block = cb ∧ ¬ p.block = sb ∧ p.block ∉ x.hb :: x.ns.map Nd.b
  lt : ∀ p, no = some p → p.block < w.heap.size
  g : ∀ p, no = some p → ¬ p.block = 1
set_option maxRecDepth 20000 in
set_option maxHeartbeats 4000000 in
theorem note_sto (w : World) (S : List Nat) (sb cb : Nat) (M : CM) (m : Man) (a : Nat) (x : SMem) (m' : Man) (e0 : Int) (no oo : Option Addr) (nc oc : Nat) (h : StoAt w S sb cb M m a x) (ha : a ≤ 1) (hub : M.left ≤ 9223372036854775807) (hwr : WrOk M) (hep : m'.ep = m.ep + 1) (hep2 : m'.ep ≤ 100000) (hep0 : 0 ≤ m.ep) (hf : manFault m' = 0)
    (hn : NumsAt w no m'.nw) (ho : NumsAt w oo m'.od) (hn1 : Apart w sb cb x no) (ho1 : Apart w sb cb x oo) (hE : noteE M a (manTxt m') = 0) (hP : (noteM M a (manTxt m')).pend = none) :
    Calls Tryz.prog 54 #[.pointer (some ⟨sb, 0, none⟩), .agg #[.int .i64 e0, .int .i64 m'.lg, .slice no m'.nw.length nc, .slice oo m'.od.length oc]] w fun e w' => e = .returned .nilIface ∧ StoAt w' (S ++ addrB no ++ addrB oo) sb cb (noteM M a (manTxt m')) m' (noteAt M a) (withA x no nc oo oc) ∧ Kp w w' [cb, sb] := by
  have k0 := h.blk.cell 0
  have k1 := h.blk.cell 1
  have k5 := h.blk.cell 5
  simp [storeC] at k0 k1 k5
  have hxb : Ext w (w.alloc (.cells #[.int .i64 m'.ep, .int .i64 m'.lg, .slice no m'.nw.length nc, .slice oo m'.od.length oc] 65)) := (Ext.refl w).alloc _
  have CN : Hid (∀ W, Ext w W → Calls Tryz.prog 87 #[.pointer (some ⟨cb, 0, none⟩), .int .i64 (a : Int), .agg #[.int .i64 m'.ep, .int .i64 m'.lg, .slice no m'.nw.length nc, .slice oo m'.od.length oc]] W fun e w' => e = .returned (.tuple #[.int .i64 (noteAt M a : Int), .nilIface]) ∧ ChipAt w' cb (noteM M a (manTxt m')) ∧ W.grownBy w' (some cb)) := fun W hx => by
    refine (note_any cb a M m' no oo nc oc W (h.chip.ext hx) ha hub hwr (hn.ext hx) (ho.ext hx) hf).mono ?_
    rintro e w' ⟨h1, h2, h3⟩
    rcases h1 with ⟨_, h1⟩ | ⟨h1, _⟩
    · exact ⟨h1, h2, h3⟩
    · exact absurd hE h1
  have HH : Hid (StoAt w S sb cb M m a x) := h
  have HA : Hid (Apart w sb cb x no ∧ Apart w sb cb x oo ∧ NumsAt w no m'.nw ∧ NumsAt w oo m'.od) := ⟨hn1, ho1, hn, ho⟩
  have HP : Hid ((noteM M a (manTxt m')).pend = none) := hP
  have hslt : sb < w.heap.size := h.blk.lt
  have hclt : cb < w.heap.size := h.chip.lt
  have hsc := h.sc
  have HM : Hid (m'.ep = m.ep + 1) := hep
  have hep3 : m.ep + 1 ≤ 100000 := by omega
  rw [hep] at CN hxb
  clear h hub hwr hf hn ho hn1 ho1 hE hP hep hep2
  generalize noteM M a (manTxt m') = M2 at *
  generalize noteAt M a = a2 at *
  go_enter Tryz.func54, Tryz.ntmps54
  go_wp2
  have bx : Blk (w.alloc (.cells #[.int .i64 (m.ep + 1), .int .i64 m'.lg, .slice no m'.nw.length nc, .slice oo m'.od.length oc] 65)) w.heap.size #[.int .i64 (m.ep + 1), .int .i64 m'.lg, .slice no m'.nw.length nc, .slice oo m'.od.length oc] 65 := Blk.new _ _ _
  have z0 := hxb.cell k0
  have z5 := hxb.cell k5
  generalize w.alloc (.cells #[.int .i64 (m.ep + 1), .int .i64 m'.lg, .slice no m'.nw.length nc, .slice oo m'.od.length oc] 65) = wa at *
  have y0 := bx.cell 0
  have y1 := bx.cell 1
  have y2 := bx.cell 2
  have y3 := bx.cell 3
  simp at y0 y1 y2 y3
  have hwb : ¬ w.heap.size = cb := by omega
  have HB3 : Hid (∀ W W', Ext wa W → W.grownBy W' (some cb) → Blk W' sb (storeC cb m a x) 75 ∧ Blk W' w.heap.size #[.int .i64 (m.ep + 1), .int .i64 m'.lg, .slice no m'.nw.length nc, .slice oo m'.od.length oc] 65) := fun W W' hx hg => ⟨((HH.out.blk.ext hxb).ext hx).grown hg hsc, (bx.ext hx).grown hg hwb⟩
  have HKP : Hid (∀ W W', Ext wa W → W.grownBy W' (some cb) → Kp w W' [cb, sb]) := fun W W' hx hg => (Kp.ofExt (hxb.trans hx) _).trans ((Kp.grown hg).mono (by simp))
  have HXB : Hid (Ext w wa) := hxb
  clear hxb k0 k1 k5 bx
  go_region_held3 (fun w' => (w'.cell? ⟨sb, 0, none⟩ = some (.pointer (some ⟨cb, 0, none⟩)) ∧ w'.cell? ⟨sb, 5, none⟩ = some (.int .i64 (a : Int))) ∧ (w'.cell? ⟨w.heap.size, 0, none⟩ = some (.int .i64 (m.ep + 1)) ∧ w'.cell? ⟨w.heap.size, 1, none⟩ = some (.int .i64 m'.lg) ∧ w'.cell? ⟨w.heap.size, 2, none⟩ = some (.slice no m'.nw.length nc) ∧ w'.cell? ⟨w.heap.size, 3, none⟩ = some (.slice oo m'.od.length oc)))
    (first | (go_keep; done) | exact ⟨⟨hB3.1.cell 0, hB3.1.cell 5⟩, hB3.2.cell 0, hB3.2.cell 1, hB3.2.cell 2, hB3.2.cell 3⟩)
    (first | (go_at_call 87; refine (CN.out _ (HXB.out.trans (by repeat (first | exact Ext.refl _ | refine Ext.drew ?_ | refine Ext.drewN ?_ _ | refine Ext.alloc ?_ _)))).mono ?_; rintro e w3 ⟨rfl, hc3, hg3⟩; have hB3 := HB3.out _ _ (by repeat (first | exact Ext.refl _ | refine Ext.drew ?_ | refine Ext.drewN ?_ _ | refine Ext.alloc ?_ _)) hg3; have hK3 := HKP.out _ _ (by repeat (first | exact Ext.refl _ | refine Ext.drew ?_ | refine Ext.drewN ?_ _ | refine Ext.alloc ?_ _)) hg3))
  obtain ⟨hb3, hx3⟩ := hB3
  have u0 := hx3.cell 0
  have u1 := hx3.cell 1
  have u2 := hx3.cell 2
  have u3 := hx3.cell 3
  have v1 := hb3.cell 1
  have v2 := hb3.cell 2
  have v3 := hb3.cell 3
  have v4 := hb3.cell 4
  have v5 := hb3.cell 5
  simp [storeC] at u0 u1 u2 u3 v1 v2 v3 v4 v5
  have f1 := hb3.free 1
  have f2 := hb3.free 2
  have f3 := hb3.free 3
  have f4 := hb3.free 4
  have f5 := hb3.free 5
  have hsl3 := hb3.lt
  have HB4 : Hid (Blk w3 sb (storeC cb m a x) 75) := hb3
  clear HB3 HKP hg3 hb3 hx3 CN z0 z5 y0 y1 y2 y3
  go_wp2
  go_ret
  have hh := HH.out
  obtain ⟨n1, o1, n2, o2⟩ := HA.out
  have hset : ∀ {W : World}, Kp w W [cb, sb] → ∀ i v, Kp w (W.setCell ⟨sb, i, none⟩ v) [cb, sb] := fun hk i v => hk.trans (Kp.set _ (by simp) v)
  have hK9 := hset (hset (hset (hset (hset hK3 1 (.int .i64 (m.ep + 1))) 2 (.int .i64 m'.lg)) 3 (.slice no m'.nw.length nc)) 4 (.slice oo m'.od.length oc)) 5 (.int .i64 (a2 : Int))
  have hc9 : ∀ {W : World}, ChipAt W cb M2 → ∀ i v, ChipAt (W.setCell ⟨sb, i, none⟩ v) cb M2 := fun hc i v => hc.oth HP.out hsc i v
  have hch := hc9 (hc9 (hc9 (hc9 (hc9 hc3 1 (.int .i64 (m.ep + 1))) 2 (.int .i64 m'.lg)) 3 (.slice no m'.nw.length nc)) 4 (.slice oo m'.od.length oc)) 5 (.int .i64 (a2 : Int))
  have hbl := ((((HB4.out.set 1 (.int .i64 (m.ep + 1))).set 2 (.int .i64 m'.lg)).set 3 (.slice no m'.nw.length nc)).set 4 (.slice oo m'.od.length oc)).set 5 (.int .i64 (a2 : Int))
  refine ⟨rfl, ⟨hch, hh.glob.kp hK9 (fun hm => ?_), ?_, n2.kp hK9 (fun p e => ?_), o2.kp hK9 (fun p e => ?_), hh.tow.kp hK9 (fun b hb => ?_), hsc, hh.ts, n1.d, o1.d, ?_, fun b hb => ?_, fun p hp => ?_, fun hm => ?_, fun b hb => ?_⟩, hK9⟩
  · rcases List.mem_cons.1 hm with e | hm
    · exact hh.gS (e ▸ hh.cS.1)
    · simp at hm; exact hh.gS (hm ▸ hh.cS.2)
  · have e : storeC cb m' a2 (withA x no nc oo oc) = ((((((storeC cb m a x).setIfInBounds 1 (.int .i64 (m.ep + 1))).setIfInBounds 2 (.int .i64 m'.lg)).setIfInBounds 3 (.slice no m'.nw.length nc)).setIfInBounds 4 (.slice oo m'.od.length oc)).setIfInBounds 5 (.int .i64 (a2 : Int))) := by
      unfold storeC withA; rw [HM.out]; rfl
    rw [e]; exact hbl
  · have := n1.d p e; simp [this.1, this.2.1]
  · have := o1.d p e; simp [this.1, this.2.1]
  · have := hh.ts b hb; simp [this.1, this.2]
  · exact ⟨by simp [hh.cS.1], by simp [hh.cS.2]⟩
  · have := hh.tS b hb; simp [this]
  · rcases hp with hp | hp
    · exact List.mem_append_left _ (List.mem_append_right _ (mem_addrB.2 ⟨p, hp, rfl⟩))
    · exact List.mem_append_right _ (mem_addrB.2 ⟨p, hp, rfl⟩)
  · simp only [List.mem_append] at hm
    rcases hm with (hm | hm) | hm
    · exact hh.gS hm
    · obtain ⟨p, hp, e⟩ := mem_addrB.1 hm; exact n1.g p hp e
    · obtain ⟨p, hp, e⟩ := mem_addrB.1 hm; exact o1.g p hp e
  · have hsz := hK9.size
    simp only [List.mem_append] at hb
    rcases hb with (hb | hb) | hb
    · exact Nat.lt_of_lt_of_le (hh.lt b hb) hsz
    · obtain ⟨p, hp, e⟩ := mem_addrB.1 hb; rw [← e]; exact Nat.lt_of_lt_of_le (n1.lt p hp) hsz
    · obtain ⟨p, hp, e⟩ := mem_addrB.1 hb; rw [← e]; exact Nat.lt_of_lt_of_le (o1.lt p hp) hsz
end Go.Proofs.YtjeinblcpejpnabGreatDoor
