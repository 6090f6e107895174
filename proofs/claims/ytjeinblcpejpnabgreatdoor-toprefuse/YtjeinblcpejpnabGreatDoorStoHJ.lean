/- LstL StoG StoH. -/
import Derived.Test.YtjeinblcpejpnabGreatDoorTabLJ
import Derived.Test.YtjeinblcpejpnabGreatDoorTabDJ
import Derived.Test.YtjeinblcpejpnabGreatDoorStoFJ

/- What Live answers. -/
namespace Go.Proofs.YtjeinblcpejpnabGreatDoor
open Go.RowKit

theorem live_step {es : List Ent} {k : Nat} {e : Ent} (he : es[k]? = some e) : liveE (es.take (k + 1)) = if e.gone then liveE (es.take k) else liveE (es.take k) ++ [e] := by
  rw [take_snocE he]; unfold liveE; rw [List.filter_append]
  cases h : e.gone <;> simp [h]
theorem live_len (es : List Ent) (k : Nat) : (liveE (es.take k)).length ≤ es.length := by
  unfold liveE
  refine Nat.le_trans (List.length_filter_le _ _) ?_
  simp; omega

set_option maxRecDepth 20000 in
set_option maxHeartbeats 2000000 in
theorem live_any (ao : Option Addr) (cap : Nat) (es : List Ent) (w : World) (hl : es.length ≤ 1000) (hes : EntsAt w ao es) :
    Calls Tryz.prog 52 #[.slice ao es.length cap] w fun e w' => ∃ v, e = .returned v ∧ Lst w w' v (liveE es) := by
  go_enter Tryz.func52, Tryz.ntmps52
  go_wp2
  go_loopw [3, 5, 8] (fun v _ i wr => ∃ (k : Nat), k ≤ es.length ∧ i = .int .i64 k ∧ Lst w wr v (liveE (es.take k))) (fun _ _ i _ => es.length - (intOf i).toNat)
  case atStart => exact ⟨0, Nat.zero_le _, rfl, Lst.nil (Ext.refl _)⟩
  case round =>
    obtain ⟨k, hk, rfl, hL⟩ := hrel
    by_cases hlt : k < es.length
    · obtain ⟨b, off, ek, ev, eg, rfl, he, h1, h2, h3⟩ := hes.get hlt
      have HS : Hid (liveE (es.take (k + 1)) = if eg then liveE (es.take k) else liveE (es.take k) ++ [⟨ek, ev, eg⟩]) := live_step he
      have hll := live_len es k
      have g1 := hL.ext.cell h1
      have g2 := hL.ext.cell h2
      have g3 := hL.ext.cell h3
      clear h1 h2 h3 he hes
      generalize liveE (es.take k) = done at *
      cases eg with
      | true =>
        go_wp2
        go_roundw
        case rel => exact ⟨k + 1, by omega, by go_num, by rw [HS.out]; exact hL.alloc _⟩
        case measure => simp [intOf]; omega
      | false =>
        go_wp2_with (at_builtin; refine wpList_app_ent rfl _ _ rfl w _ done rfl ?c1 _ ek ev false rfl ?c2 ?c3 ?_)
        case c1 => exact (hL.alloc _).alloc _
        case c2 => exact Blk.new' _ _ _ (by simp)
        case c3 => omega
        intro v2 w2 hL2
        clear hL g1 g2 g3
        go_wp2
        go_roundw
        case rel => exact ⟨k + 1, by omega, by go_num, by rw [HS.out]; exact hL2⟩
        case measure => simp [intOf]; omega
    · have HE : Hid (liveE es = liveE (es.take k)) := by unfold Hid; rw [List.take_of_length_le (by omega)]
      clear hes
      go_wp2
      go_ret
      exact ⟨_, rfl, by rw [HE.out]; exact hL⟩
end Go.Proofs.YtjeinblcpejpnabGreatDoor

/- A store in memory: its tables, its rows. -/
namespace Go.Proofs.YtjeinblcpejpnabGreatDoor
open Go.RowKit Go.WideShapes

/-- Where a store's parts lie. -/
structure SMem where
  a1 : Option Addr
  c1 : Nat
  a2 : Option Addr
  c2 : Nat
  hb : Nat
  ns : List Nd
def storeC (cb : Nat) (m : Man) (a : Nat) (x : SMem) : Array Value := #[.pointer (some ⟨cb, 0, none⟩), .int .i64 m.ep, .int .i64 m.lg, .slice x.a1 m.nw.length x.c1, .slice x.a2 m.od.length x.c2, .int .i64 (a : Int), .pointer (some ⟨x.hb, 0, none⟩)]
/-- A store on a chip, in the blocks S. -/
structure StoAt (w : World) (S : List Nat) (sb cb : Nat) (M : CM) (m : Man) (a : Nat) (x : SMem) : Prop where
  chip : ChipAt w cb M
  glob : GlobT w
  blk : Blk w sb (storeC cb m a x) 75
  nw : NumsAt w x.a1 m.nw
  od : NumsAt w x.a2 m.od
  tow : Tow w x.hb x.ns
  sc : ¬ sb = cb
  ts : ∀ b ∈ x.hb :: x.ns.map Nd.b, ¬ b = cb ∧ ¬ b = sb
  d1 : ∀ p, x.a1 = some p → ¬ p.block = cb ∧ ¬ p.block = sb ∧ p.block ∉ x.hb :: x.ns.map Nd.b
  d2 : ∀ p, x.a2 = some p → ¬ p.block = cb ∧ ¬ p.block = sb ∧ p.block ∉ x.hb :: x.ns.map Nd.b
  cS : cb ∈ S ∧ sb ∈ S
  tS : ∀ b ∈ x.hb :: x.ns.map Nd.b, b ∈ S
  aS : ∀ p, x.a1 = some p ∨ x.a2 = some p → p.block ∈ S
  gS : 1 ∉ S
  lt : ∀ b ∈ S, b < w.heap.size
theorem StoAt.ext {w w' : World} {S : List Nat} {sb cb : Nat} {M : CM} {m : Man} {a : Nat} {x : SMem} (h : StoAt w S sb cb M m a x) (hx : Ext w w') : StoAt w' S sb cb M m a x :=
  ⟨h.chip.ext hx, h.glob.ext hx, h.blk.ext hx, h.nw.ext hx, h.od.ext hx, h.tow.ext hx, h.sc, h.ts, h.d1, h.d2, h.cS, h.tS, h.aS, h.gS, fun b hb => Nat.lt_of_lt_of_le (h.lt b hb) hx.size⟩
/-- What is done elsewhere leaves a store as it is. -/
theorem StoAt.kp {w w' : World} {S T : List Nat} {sb cb : Nat} {M : CM} {m : Man} {a : Nat} {x : SMem} (h : StoAt w S sb cb M m a x) (hp : M.pend = none) (hK : Kp w w' T) (hd : ∀ b ∈ S, b ∉ T) (hg : 1 ∉ T) : StoAt w' S sb cb M m a x := by
  refine ⟨?_, h.glob.kp hK hg, hK.Blk h.blk (hd _ h.cS.2), h.nw.kp hK (fun p e => hd _ (h.aS p (.inl e))), h.od.kp hK (fun p e => hd _ (h.aS p (.inr e))), h.tow.kp hK (fun b hb => hd b (h.tS b hb)), h.sc, h.ts, h.d1, h.d2, h.cS, h.tS, h.aS, h.gS, fun b hb => Nat.lt_of_lt_of_le (h.lt b hb) hK.size⟩
  obtain ⟨⟨cs, fv, h1, h2, h3⟩, h4⟩ := h.chip
  refine ⟨⟨cs, fv, hK.Blk h1 (hd _ h.cS.1), h2, ?_⟩, h4⟩
  rw [hp] at h3 ⊢
  exact h3
theorem concatNN (W : World) (b : Nat) (no oo : Option Addr) (nc oc : Nat) (nw od : List Int) (t : TypeId) (h2 : Blk W b #[.slice no nw.length nc, .slice oo od.length oc] t)
    (hn : NumsAt W no nw) (ho : NumsAt W oo od) (hl : nw.length + od.length ≤ 100) :
    Calls Tryz.prog 81 #[.slice (some ⟨b, 0, none⟩) 2 2] W fun e w' => ∃ ao c, e = .returned (.slice ao (nw ++ od).length c) ∧ NumsAt w' ao (nw ++ od) ∧ Ext W w' ∧ ∀ a, ao = some a → W.heap.size ≤ a.block ∧ a.block < w'.heap.size := by
  have hc : cat [⟨nw, no, nc⟩, ⟨od, oo, oc⟩] = nw ++ od := by simp [cat]
  have hL : ListsI W (some ⟨b, 0, none⟩) [⟨nw, no, nc⟩, ⟨od, oo, oc⟩] := fun _ => by
    refine ⟨b, 0, rfl, fun i l hl => ?_⟩
    rw [Nat.zero_add, h2.cell]
    match i with
    | 0 => simp at hl; subst hl; exact ⟨rfl, hn⟩
    | 1 => simp at hl; subst hl; exact ⟨rfl, ho⟩
    | n + 2 => simp at hl
  have := concat_any (some ⟨b, 0, none⟩) 2 [⟨nw, no, nc⟩, ⟨od, oo, oc⟩] W (by simp) (by rw [hc]; simp; omega) hL
  rw [hc] at this
  refine this.mono ?_
  rintro e w' ⟨v, rfl, hI⟩
  obtain ⟨ao, cap, hv, ha⟩ := hI.at
  refine ⟨ao, cap, by rw [hv], ha, hI.ext, fun a e => ?_⟩
  exact hI.own.lt a.block (by rw [hv, e]; rfl)
/-- What tables gives. -/
structure TabsE (w w' : World) (e : Ending) (ts : List Tb) : Prop where
  ex : ∃ ao c ls, e = .returned (.tuple #[.slice ao ls.length c, .nilIface]) ∧ ls.length ≤ c ∧ CellsL w' ao ls ∧ EntsOf w' ls ∧ ls.map LE.es = tabsE ts ∧ Ext w w'
set_option maxRecDepth 20000 in
set_option maxHeartbeats 4000000 in
theorem tables_any (w : World) (S : List Nat) (sb cb : Nat) (M : CM) (m : Man) (a : Nat) (x : SMem) (N O : List Tb) (h : StoAt w S sb cb M m a x) (hp : M.pend = none) (hnw : m.nw = N.map (fun x => (x.b : Int))) (hod : m.od = O.map (fun x => (x.b : Int)))
    (htn : ∀ y ∈ N, TabAt M y.b y.es) (hto : ∀ y ∈ O, TabAt M y.b y.es) (hl : N.length + O.length ≤ 20) :
    Calls Tryz.prog 49 #[.pointer (some ⟨sb, 0, none⟩)] w fun e w' => TabsE w w' e (N ++ O) := by
  have k0 := h.blk.cell 0
  have k3 := h.blk.cell 3
  have k4 := h.blk.cell 4
  simp [storeC] at k0 k3 k4
  have HD : Hid (Calls Tryz.prog 48 #[.pointer (some ⟨cb, 0, none⟩)] w fun e w' => e = .returned (.bool false) ∧ w = w') := by
    have := down_any cb M w h.chip
    rw [show downB M = false by unfold downB; rw [hp]; rfl] at this
    exact this.mono fun _ _ h => ⟨h.1, h.2.symm⟩
  have hll : m.nw.length + m.od.length ≤ 100 := by rw [hnw, hod]; simp; omega
  have CC : Hid (∀ W b t, Ext w W → Blk W b #[.slice x.a1 m.nw.length x.c1, .slice x.a2 m.od.length x.c2] t → Calls Tryz.prog 81 #[.slice (some ⟨b, 0, none⟩) 2 2] W fun e w' => ∃ ao c, e = .returned (.slice ao (m.nw ++ m.od).length c) ∧ NumsAt w' ao (m.nw ++ m.od) ∧ Ext W w' ∧ ∀ a, ao = some a → W.heap.size ≤ a.block ∧ a.block < w'.heap.size) := fun W b t hx hb => concatNN W b x.a1 x.a2 x.c1 x.c2 m.nw m.od t hb (h.nw.ext hx) (h.od.ext hx) hll
  have HTB : Hid (∀ (i : Nat) (y : Tb), (N ++ O)[i]? = some y → (m.nw ++ m.od)[i]? = some (y.b : Int) ∧ TabAt M y.b y.es) := fun i y hy => by
    refine ⟨by rw [hnw, hod, ← List.map_append, List.getElem?_map, hy]; rfl, ?_⟩
    rcases List.mem_append.1 (List.mem_of_getElem? hy) with h' | h'
    · exact htn y h'
    · exact hto y h'
  have HLN : Hid ((m.nw ++ m.od).length = (N ++ O).length) := by rw [Hid, hnw, hod]; simp
  have HA : Hid (∀ W (y : Tb), Ext w W → TabAt M y.b y.es → Calls Tryz.prog 82 #[.pointer (some ⟨cb, 0, none⟩), .int .i64 (y.b : Int)] W fun e w' => ∃ ao c, e = .returned (.tuple #[.slice ao y.es.length c, .nilIface]) ∧ EntsAt w' ao y.es ∧ y.es.length ≤ c ∧ (∀ a, ao = some a → ∃ cs, Blk w' a.block cs 49) ∧ Ext W w') := fun W y hx ht => by
    have := tabAllC_any cb y.b M W (h.chip.ext hx)
    rw [ht.all hp] at this
    exact this
  have HK0 : Hid (w.cell? ⟨sb, 0, none⟩ = some (.pointer (some ⟨cb, 0, none⟩))) := k0
  have hNO : (N ++ O).length ≤ 20 := by simp; omega
  have hlen1 := HLN.out
  clear h hnw hod htn hto hl
  generalize N ++ O = ts at *
  go_enter Tryz.func49, Tryz.ntmps49
  go_wp2_with (go_at_call 48; refine HD.out.mono ?_; rintro e w1 ⟨rfl, rfl⟩)
  go_region_held3 (fun w' => w'.cell? ⟨sb, 3, none⟩ = some (.slice x.a1 m.nw.length x.c1) ∧ w'.cell? ⟨sb, 4, none⟩ = some (.slice x.a2 m.od.length x.c2))
    (first | (go_keep; done) | exact ⟨hw2.cell k3, hw2.cell k4⟩)
    (first | (go_at_call 81; refine (CC.out _ _ _ (by repeat (first | exact Ext.refl _ | refine Ext.drew ?_ | refine Ext.drewN ?_ _ | refine Ext.alloc ?_ _)) (by first | exact Blk.new _ _ _ | exact Blk.drewN (Blk.new _ _ _) _ | exact Blk.drew (Blk.new _ _ _))).mono ?_; rintro e w2 ⟨ao, c, rfl, hN2, hx2, hb2⟩; have hw2 : Ext w w2 := Ext.trans (by repeat (first | exact Ext.refl _ | refine Ext.drew ?_ | refine Ext.drewN ?_ _ | refine Ext.alloc ?_ _)) hx2))
  have HX2 : Hid (Ext w w2) := hw2
  have HN2 : Hid (NumsAt w2 ao (m.nw ++ m.od)) := hN2
  clear hN2 hx2 hb2 hw2 CC HD k0 k3 k4 hll
  go_wp2
  go_loopw [4, 6, 7, 8, 28] (fun v _ _ _ i wr => ∃ (k : Nat) (ls : List LE), k ≤ ts.length ∧ i = .int .i64 k ∧ LLs w2 wr v ls ∧ EntsOf wr ls ∧ ls.map LE.es = tabsE (ts.take k)) (fun _ _ _ _ i _ => ts.length - (intOf i).toNat)
  case atStart => exact ⟨0, [], Nat.zero_le _, rfl, LLs.nil (Ext.refl _), fun l hl => (by cases hl), rfl⟩
  case round =>
    obtain ⟨k, ls, hk, rfl, hL, hE, hm⟩ := hrel
    have hxr := hL.ext
    have hx0 := HX2.out.trans hxr
    have hlk : ls.length = k := by have := congrArg List.length hm; simp [tabsE] at this; omega
    obtain ⟨vo, vc, hv⟩ := ownsRow_slice hL.own
    subst hv
    by_cases hlt : k < ts.length
    · obtain ⟨y, hy⟩ : ∃ y, ts[k]? = some y := ⟨ts[k], List.getElem?_eq_getElem hlt⟩
      obtain ⟨hyb, hyt⟩ := HTB.out k y hy
      obtain ⟨b, off, z, rfl, hz, hc⟩ := (HN2.out.ext hxr).get (show k < (m.nw ++ m.od).length by omega)
      obtain rfl : z = (y.b : Int) := by rw [hz] at hyb; exact Option.some.inj hyb
      have HAW : Hid (Calls Tryz.prog 82 #[.pointer (some ⟨cb, 0, none⟩), .int .i64 (y.b : Int)] wr fun e w' => ∃ ao c, e = .returned (.tuple #[.slice ao y.es.length c, .nilIface]) ∧ EntsAt w' ao y.es ∧ y.es.length ≤ c ∧ (∀ a, ao = some a → ∃ cs, Blk w' a.block cs 49) ∧ Ext wr w') := HA.out wr y hx0 hyt
      have HM : Hid (tabsE (ts.take (k + 1)) = tabsE (ts.take k) ++ [y.es]) := by rw [Hid, List.take_add_one, hy]; simp [tabsE]
      have HL : Hid (LLs w2 wr (.slice vo ls.length vc) ls) := hL
      have HE : Hid (EntsOf wr ls) := hE
      have HMM : Hid (ls.map LE.es = tabsE (ts.take k)) := hm
      have q0 := hx0.cell HK0.out
      have hk20 : ls.length ≤ 20 := by omega
      clear hyb hyt hz hy hL hE hm HA HTB hlk
      generalize y.b = yb at *
      generalize y.es = ye at *
      go_wp2_with (first
        | (go_at_call 82; refine HAW.out.mono ?_; rintro e w3 ⟨ao3, c3, rfl, hE3, hc3, hb3, hx3⟩)
        | (at_builtin; refine wpList_app_lists rfl _ _ rfl w2 (.slice vo ls.length vc) ls rfl ((HL.out.more hx3).alloc _) _ 1 [⟨ye, ao3, c3⟩] rfl (cellsL_blk (l := ⟨ye, ao3, c3⟩) (Blk.new w3 _ _)) ?c1 ?_))
      case c1 => simp; omega
      intro v4 w4 hL4 hx4 hg4
      obtain ⟨v4o, v4c, hv4⟩ := ownsRow_slice hL4.own
      subst hv4
      go_wp2
      go_roundw
      case rel =>
        have hLa := (HL.out.more hx3).alloc (.cells #[.slice ao3 ye.length c3] 37)
        have hEa : EntsOf (w3.alloc (.cells #[.slice ao3 ye.length c3] 37)) (ls ++ [⟨ye, ao3, c3⟩]) := fun l hl => by
          rcases List.mem_append.1 hl with hl | hl
          · exact ((HE.out.ext hx3).ext ((Ext.refl w3).alloc _)) l hl
          · simp at hl; subst hl
            exact ⟨hc3, hE3.ext ((Ext.refl w3).alloc _), fun a ha => (hb3 a ha).imp fun _ hb => hb.alloc _⟩
        refine ⟨k + 1, ls ++ [⟨ye, ao3, c3⟩], by omega, by go_num, hL4, hEa.grown hLa hg4, ?_⟩
        rw [HM.out, List.map_append, HMM.out]; rfl
      case measure => simp [intOf]; omega
    · have HM : Hid (tabsE (ts.take k) = tabsE ts) := by rw [Hid, List.take_of_length_le (by omega)]
      obtain ⟨ao5, c5, e5, hc5, hl5⟩ := hL.at hE
      simp only [Value.slice.injEq] at e5
      obtain ⟨rfl, _, rfl⟩ := e5
      have HR : Hid (TabsE w wr (.returned (.tuple #[.slice vo ls.length vc, .nilIface])) ts) := ⟨vo, vc, ls, rfl, hc5, hl5.cells, hE, by rw [hm, HM.out], hx0⟩
      clear hL hE hm hl5 HA HTB hlk
      go_wp2
      go_ret2
      exact HR.out
end Go.Proofs.YtjeinblcpejpnabGreatDoor

/- A store in memory: its rows. -/
namespace Go.Proofs.YtjeinblcpejpnabGreatDoor
open Go.RowKit Go.WideShapes

/-- A list of entries is answered, in new memory. -/
structure RetE (w w' : World) (v : Value) (es : List Ent) : Prop where
  ex : ∃ ao c, v = .slice ao es.length c ∧ es.length ≤ c ∧ EntsAt w' ao es ∧ (∀ a, ao = some a → w.heap.size ≤ a.block ∧ ∃ cs, Blk w' a.block cs 49) ∧ Ext w w'
theorem Lst.retE {W0 w w' : World} {v : Value} {es : List Ent} (h : Lst w w' v es) (hx : Ext W0 w) : RetE W0 w' v es := by
  obtain ⟨ao, cap, hv, ha⟩ := h.at
  have ho := h.own
  rw [hv] at ho
  exact ⟨ao, cap, hv, own_cap ho, ha, fun a e => ⟨Nat.le_trans hx.size (own_ge ho a.block (by rw [e]; rfl)), own_blk ho a e⟩, hx.trans h.ext⟩
set_option maxRecDepth 20000 in
set_option maxHeartbeats 4000000 in
theorem rowsWith_any (w : World) (S : List Nat) (sb cb : Nat) (M : CM) (m : Man) (a : Nat) (x : SMem) (N O : List Tb) (co : Option Addr) (cc : Nat) (ces : List Ent) (h : StoAt w S sb cb M m a x) (hp : M.pend = none) (hnw : m.nw = N.map (fun x => (x.b : Int))) (hod : m.od = O.map (fun x => (x.b : Int)))
    (htn : ∀ y ∈ N, TabAt M y.b y.es) (hto : ∀ y ∈ O, TabAt M y.b y.es) (hl : N.length + O.length ≤ 10) (hh : x.ns.length ≤ 40)
    (hc1 : ces.length ≤ cc) (hc2 : ces.length ≤ 40) (hc3 : Ris ces) (hc4 : EntsAt w co ces) (hc5 : ∀ a, co = some a → ∃ cs, Blk w a.block cs 49) :
    Calls Tryz.prog 41 #[.pointer (some ⟨sb, 0, none⟩), .slice co ces.length cc] w fun e w' => ∃ v, e = .returned (.tuple #[v, .nilIface]) ∧ RetE w w' v (liveE (allE (ces :: x.ns.map Nd.e :: (tabsE N ++ tabsE O)))) := by
  have CT : Hid (Calls Tryz.prog 49 #[.pointer (some ⟨sb, 0, none⟩)] w fun e w' => TabsE w w' e (N ++ O)) := tables_any w S sb cb M m a x N O h hp hnw hod htn hto (by omega)
  have k6 := h.blk.cell 6
  simp [storeC] at k6
  have CH : Hid (∀ W, Ext w W → Calls Tryz.prog 42 #[.pointer (some ⟨x.hb, 0, none⟩)] W fun e w' => ∃ v, e = .returned v ∧ Lst W w' v (x.ns.map Nd.e)) := fun W hx => tall_any x.hb x.ns W (h.tow.ext hx) (by omega)
  have HK6 : Hid (w.cell? ⟨sb, 6, none⟩ = some (.pointer (some ⟨x.hb, 0, none⟩))) := k6
  have HTE : Hid (tabsE (N ++ O) = tabsE N ++ tabsE O) := by rw [Hid]; simp [tabsE]
  have HFT : Hid (∀ l ∈ tabsE (N ++ O), Ris l ∧ l.length ≤ 40) := fun l hl => by
    obtain ⟨y, hy, rfl⟩ := List.mem_map.1 hl
    have ht : TabAt M y.b y.es := by
      rcases List.mem_append.1 hy with h' | h'
      · exact htn y h'
      · exact hto y h'
    exact ⟨tabF_ris ht.ok, by have := (tabF_zero ht.ok).2.1; omega⟩
  have HTL : Hid ((tabsE (N ++ O)).length ≤ 10) := by rw [Hid]; simp [tabsE]; omega
  have HRH : Hid (Ris (x.ns.map Nd.e)) := h.tow.g.ris
  have HC3 : Hid (Ris ces) := hc3
  have HC4 : Hid (EntsAt w co ces) := hc4
  have HC5 : Hid (∀ a, co = some a → ∃ cs, Blk w a.block cs 49) := hc5
  rw [← HTE.out]
  clear h hp hnw hod htn hto hl hc3 hc4 hc5 HTE k6
  generalize x.hb = hb at *
  generalize hhe : x.ns.map Nd.e = hand at *
  have hhl : hand.length ≤ 40 := by rw [← hhe]; simp; exact hh
  clear hhe hh
  generalize N ++ O = ts at *
  go_enter Tryz.func41, Tryz.ntmps41
  go_wp2_with (first
    | (go_at_call 49; refine CT.out.mono ?_; rintro e w1 ⟨ao1, c1, ls, rfl, hlc, hcl, heo, hls, hx1⟩; have q6 := hx1.cell HK6.out)
    | (go_at_call 42; refine (CH.out _ hx1).mono ?_; rintro e w2 ⟨v2, rfl, hL2⟩; obtain ⟨o2, n2, hv2, hE2⟩ := hL2.at; have hcap2 := own_cap (hv2 ▸ hL2.own); have hbk2 := own_blk (hv2 ▸ hL2.own); have hx2 := hL2.ext; subst hv2; clear hL2))
  have hxW : Ext w2 ((w2.alloc (.cells #[.slice co ces.length cc, .slice o2 hand.length n2] 37)).alloc (.cells #[.slice (some ⟨w2.heap.size, 0, none⟩) 2 2, .slice ao1 ls.length c1] 99)) := ((Ext.refl w2).alloc _).alloc _
  have hb1 : Blk ((w2.alloc (.cells #[.slice co ces.length cc, .slice o2 hand.length n2] 37)).alloc (.cells #[.slice (some ⟨w2.heap.size, 0, none⟩) 2 2, .slice ao1 ls.length c1] 99)) w2.heap.size #[.slice co ces.length cc, .slice o2 hand.length n2] 37 := (Blk.new _ _ _).alloc _
  have hb2 : Blk ((w2.alloc (.cells #[.slice co ces.length cc, .slice o2 hand.length n2] 37)).alloc (.cells #[.slice (some ⟨w2.heap.size, 0, none⟩) 2 2, .slice ao1 ls.length c1] 99)) (w2.heap.size + 1) #[.slice (some ⟨w2.heap.size, 0, none⟩) 2 2, .slice ao1 ls.length c1] 99 := Blk.new' _ _ _ (by simp)
  have hx12 : Ext w1 ((w2.alloc (.cells #[.slice co ces.length cc, .slice o2 hand.length n2] 37)).alloc (.cells #[.slice (some ⟨w2.heap.size, 0, none⟩) 2 2, .slice ao1 ls.length c1] 99)) := hx2.trans hxW
  generalize (w2.alloc (.cells #[.slice co ces.length cc, .slice o2 hand.length n2] 37)).alloc (.cells #[.slice (some ⟨w2.heap.size, 0, none⟩) 2 2, .slice ao1 ls.length c1] 99) = W at *
  have hL3 : Lists3 W (some ⟨w2.heap.size + 1, 0, none⟩) [⟨[⟨ces, co, cc⟩, ⟨hand, o2, n2⟩], some ⟨w2.heap.size, 0, none⟩, 2⟩, ⟨ls, ao1, c1⟩] := fun _ => by
    refine ⟨w2.heap.size + 1, 0, rfl, fun i l hl => ?_⟩
    rw [Nat.zero_add, hb2.cell]
    match i with
    | 0 =>
      simp at hl; subst hl
      refine ⟨rfl, fun _ => ⟨w2.heap.size, 0, rfl, fun j y hy => ?_⟩⟩
      rw [Nat.zero_add, hb1.cell]
      match j with
      | 0 => simp at hy; subst hy; rfl
      | 1 => simp at hy; subst hy; rfl
      | n + 2 => simp at hy
    | 1 => simp at hl; subst hl; exact ⟨rfl, hcl.ext hx12⟩
    | n + 2 => simp at hl
  have hlsl : ls.length ≤ 10 := by have := congrArg List.length hls; have := HTL.out; simp at *; omega
  have CC : Hid (Calls Tryz.prog 71 #[.slice (some ⟨w2.heap.size + 1, 0, none⟩) 2 2] W fun e w' => ∃ v, e = .returned v ∧ LLs W w' v (⟨ces, co, cc⟩ :: ⟨hand, o2, n2⟩ :: ls)) := by
    have := concat3_any (some ⟨w2.heap.size + 1, 0, none⟩) 2 [⟨[⟨ces, co, cc⟩, ⟨hand, o2, n2⟩], some ⟨w2.heap.size, 0, none⟩, 2⟩, ⟨ls, ao1, c1⟩] W (by simp) (by simp [cat3]; omega) hL3
    rw [show cat3 [⟨[⟨ces, co, cc⟩, ⟨hand, o2, n2⟩], some ⟨w2.heap.size, 0, none⟩, 2⟩, ⟨ls, ao1, c1⟩] = ⟨ces, co, cc⟩ :: ⟨hand, o2, n2⟩ :: ls by simp [cat3]] at this
    exact this
  have HEO : Hid (EntsOf W (⟨ces, co, cc⟩ :: ⟨hand, o2, n2⟩ :: ls)) := fun l hl => by
    rcases List.mem_cons.1 hl with rfl | hl
    · exact ⟨hc1, (HC4.out.ext hx1).ext hx12, fun a ha => (HC5.out a ha).imp fun _ hb => (hb.ext hx1).ext hx12⟩
    · rcases List.mem_cons.1 hl with rfl | hl
      · exact ⟨hcap2, hE2.ext hxW, fun a ha => (hbk2 a ha).imp fun _ hb => hb.ext hxW⟩
      · exact (heo.ext hx12) l hl
  have HFE : Hid (Few (⟨ces, co, cc⟩ :: ⟨hand, o2, n2⟩ :: ls)) := by
    have key : ∀ l ∈ ls, Ris l.es ∧ l.es.length ≤ 40 := fun l hl => HFT.out _ (by rw [← hls]; exact List.mem_map_of_mem hl)
    refine ⟨fun l hl => ?_, fun l hl => ?_⟩
    · rcases List.mem_cons.1 hl with rfl | hl
      · exact HC3.out
      · rcases List.mem_cons.1 hl with rfl | hl
        · exact HRH.out
        · exact (key l hl).1
    · rcases List.mem_cons.1 hl with rfl | hl
      · exact hc2
      · rcases List.mem_cons.1 hl with rfl | hl
        · exact hhl
        · exact (key l hl).2
  have HAL : Hid (alls (⟨ces, co, cc⟩ :: ⟨hand, o2, n2⟩ :: ls) = allE (ces :: hand :: tabsE ts)) := by
    rw [Hid, ← hls]; rfl
  have HX : Hid (Ext w W) := hx1.trans hx12
  have CA : Hid (∀ W' ao c, Ext W W' → (⟨ces, co, cc⟩ :: ⟨hand, o2, n2⟩ :: ls : List LE).length ≤ c → ListsAt W' ao (⟨ces, co, cc⟩ :: ⟨hand, o2, n2⟩ :: ls) → Calls Tryz.prog 53 #[.slice ao (⟨ces, co, cc⟩ :: ⟨hand, o2, n2⟩ :: ls : List LE).length c] W' fun e w' => RetL W' w' e (alls (⟨ces, co, cc⟩ :: ⟨hand, o2, n2⟩ :: ls))) := fun W' ao c _ h1 h2 => all_any 20 ao c _ W' (by simp; omega) (by simp; omega) h1 HFE.out h2
  have HALL : Hid ((alls (⟨ces, co, cc⟩ :: ⟨hand, o2, n2⟩ :: ls)).length ≤ 1000) := by
    have := alls_len HFE.out
    rw [Hid]; simp at this; omega
  have CL : Hid (∀ W' ao c, EntsAt W' ao (alls (⟨ces, co, cc⟩ :: ⟨hand, o2, n2⟩ :: ls)) → Calls Tryz.prog 52 #[.slice ao (alls (⟨ces, co, cc⟩ :: ⟨hand, o2, n2⟩ :: ls)).length c] W' fun e w' => ∃ v, e = .returned v ∧ Lst W' w' v (liveE (alls (⟨ces, co, cc⟩ :: ⟨hand, o2, n2⟩ :: ls)))) := fun W' ao c he => live_any ao c _ W' HALL.out he
  clear hL3 hb1 hb2 hx12 hxW heo hcl hls hE2 hbk2 hcap2 hx2 hx1 hlc hlsl hc1 hc2 hhl CT CH HALL HFE HFT HTL q6
  generalize hall : (⟨ces, co, cc⟩ :: ⟨hand, o2, n2⟩ :: ls : List LE) = all at *
  clear hall
  generalize alls all = res at *
  go_wp2_with (first
    | (go_at_call 71; refine CC.out.mono ?_; rintro e w3 ⟨v3, rfl, hL3⟩; have he3 := HEO.out.ext hL3.ext; obtain ⟨o3, n3, hv3, hn3, hl3⟩ := hL3.at he3; subst hv3; have hx3 := hL3.ext; clear hL3)
    | (go_at_call 53; refine (CA.out _ _ _ hx3 hn3 hl3).mono ?_; rintro e w4 ⟨o4, n4, rfl, hn4, he4, hx4⟩)
    | (go_at_call 52; refine (CL.out _ _ _ he4).mono ?_; rintro e w5 ⟨v5, rfl, hL5⟩))
  go_ret2
  exact ⟨v5, rfl, by rw [← HAL.out]; exact hL5.retE ((HX.out.trans hx3).trans hx4)⟩
set_option maxHeartbeats 1000000 in
theorem rows_any (w : World) (S : List Nat) (sb cb : Nat) (M : CM) (m : Man) (a : Nat) (x : SMem) (N O : List Tb) (h : StoAt w S sb cb M m a x) (hp : M.pend = none) (hnw : m.nw = N.map (fun x => (x.b : Int))) (hod : m.od = O.map (fun x => (x.b : Int)))
    (htn : ∀ y ∈ N, TabAt M y.b y.es) (hto : ∀ y ∈ O, TabAt M y.b y.es) (hl : N.length + O.length ≤ 10) (hh : x.ns.length ≤ 40) :
    Calls Tryz.prog 24 #[.pointer (some ⟨sb, 0, none⟩)] w fun e w' => ∃ v, e = .returned (.tuple #[v, .nilIface]) ∧ RetE w w' v (rowsE (x.ns.map Nd.e) N O) := by
  have CR : Hid (Calls Tryz.prog 41 #[.pointer (some ⟨sb, 0, none⟩), .slice none 0 0] w fun e w' => ∃ v, e = .returned (.tuple #[v, .nilIface]) ∧ RetE w w' v (rowsE (x.ns.map Nd.e) N O)) :=
    rowsWith_any w S sb cb M m a x N O none 0 [] h hp hnw hod htn hto hl hh (by simp) (by simp) Ris.nil (fun h => absurd rfl h) (fun a ha => by cases ha)
  clear h hp hnw hod htn hto hl hh
  go_enter Tryz.func24, Tryz.ntmps24
  go_wp2_with (go_at_call 41; refine CR.out.mono ?_; rintro e w1 ⟨v1, rfl, hR⟩)
  go_ret2
  exact ⟨v1, rfl, hR⟩
end Go.Proofs.YtjeinblcpejpnabGreatDoor
