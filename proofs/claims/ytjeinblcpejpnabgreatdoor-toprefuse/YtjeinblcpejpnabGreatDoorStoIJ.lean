/- StoI. -/
import Derived.Test.YtjeinblcpejpnabGreatDoorStoHJ

/- A store in memory: what a key has. -/
namespace Go.Proofs.YtjeinblcpejpnabGreatDoor
open Go.RowKit Go.WideShapes

theorem Tryz.results55 : Tryz.f55.results = #[.cell 4 49, .tmp 5, .tmp 6] := by kernel_rfl
theorem entV_eq (e : Ent) : entV e = .agg #[.string e.key, .string e.val, .bool e.gone] := rfl
set_option maxRecDepth 20000 in
set_option maxHeartbeats 4000000 in
theorem newest_any (w : World) (S : List Nat) (sb cb : Nat) (M : CM) (m : Man) (a : Nat) (x : SMem) (N O : List Tb) (key : ByteArray) (h : StoAt w S sb cb M m a x) (hp : M.pend = none) (hnw : m.nw = N.map (fun x => (x.b : Int))) (hod : m.od = O.map (fun x => (x.b : Int)))
    (htn : ∀ y ∈ N, TabAt M y.b y.es) (hto : ∀ y ∈ O, TabAt M y.b y.es) (hl : N.length + O.length ≤ 20) (hks : key.size ≤ 4611686018427387904) :
    Calls Tryz.prog 55 #[.pointer (some ⟨sb, 0, none⟩), .string key] w fun e w' => e = .returned (got3 (getE (x.ns.map Nd.e :: tabsE (N ++ O)).flatten key)) ∧ Ext w w' := by
  have k0 := h.blk.cell 0
  have k3 := h.blk.cell 3
  have k4 := h.blk.cell 4
  have k6 := h.blk.cell 6
  simp [storeC] at k0 k3 k4 k6
  have CG := fun W (hx : Ext w W) => get_any x.hb x.ns key W (h.tow.ext hx)
  have hll : m.nw.length + m.od.length ≤ 100 := by rw [hnw, hod]; simp; omega
  have CC : Hid (∀ W b t, Ext w W → Blk W b #[.slice x.a1 m.nw.length x.c1, .slice x.a2 m.od.length x.c2] t → Calls Tryz.prog 81 #[.slice (some ⟨b, 0, none⟩) 2 2] W fun e w' => ∃ ao c, e = .returned (.slice ao (m.nw ++ m.od).length c) ∧ NumsAt w' ao (m.nw ++ m.od) ∧ Ext W w' ∧ ∀ a, ao = some a → W.heap.size ≤ a.block ∧ a.block < w'.heap.size) := fun W b t hx hb => concatNN W b x.a1 x.a2 x.c1 x.c2 m.nw m.od t hb (h.nw.ext hx) (h.od.ext hx) hll
  have HTB : Hid (∀ (i : Nat) (y : Tb), (N ++ O)[i]? = some y → (m.nw ++ m.od)[i]? = some (y.b : Int) ∧ TabAt M y.b y.es) := fun i y hy => by
    refine ⟨by rw [hnw, hod, ← List.map_append, List.getElem?_map, hy]; rfl, ?_⟩
    rcases List.mem_append.1 (List.mem_of_getElem? hy) with h' | h'
    · exact htn y h'
    · exact hto y h'
  have HLN : Hid ((m.nw ++ m.od).length = (N ++ O).length) := by rw [Hid, hnw, hod]; simp
  have HA : Hid (∀ W (y : Tb), Ext w W → TabAt M y.b y.es → Calls Tryz.prog 89 #[.pointer (some ⟨cb, 0, none⟩), .int .i64 (y.b : Int), .string key] W fun e w' => e = .returned (got3 (getE y.es key)) ∧ Ext W w') := fun W y hx ht => tabGet_any cb y.b y.es key M W (h.chip.ext hx) hp ht hks
  have HK0 : Hid (w.cell? ⟨sb, 0, none⟩ = some (.pointer (some ⟨cb, 0, none⟩))) := k0
  have HK34 : Hid (w.cell? ⟨sb, 3, none⟩ = some (.slice x.a1 m.nw.length x.c1) ∧ w.cell? ⟨sb, 4, none⟩ = some (.slice x.a2 m.od.length x.c2)) := ⟨k3, k4⟩
  have hNO : (N ++ O).length ≤ 20 := by simp; omega
  have hlen1 := HLN.out
  clear h hnw hod htn hto hl
  generalize N ++ O = ts at *
  generalize x.hb = hb at *
  generalize x.ns.map Nd.e = hand at *
  have hb4 : Blk (w.alloc (.cells #[.string ⟨#[]⟩, .string ⟨#[]⟩, .bool false] 49)) w.heap.size #[.string ⟨#[]⟩, .string ⟨#[]⟩, .bool false] 49 := Blk.new _ _ _
  have hx0 : Ext w (w.alloc (.cells #[.string ⟨#[]⟩, .string ⟨#[]⟩, .bool false] 49)) := (Ext.refl w).alloc _
  have z6 := hx0.cell k6
  cases hg : getE hand key with
  | some e0 =>
    have HG : Hid (getE (hand :: tabsE ts).flatten key = some e0) := by rw [Hid, List.flatten_cons, getE_app, hg]; rfl
    rw [HG.out]
    have CG2 : Hid (∀ W, Ext w W → Calls Tryz.prog 88 #[.pointer (some ⟨hb, 0, none⟩), .string key] W fun e w' => e = .returned (.tuple #[.agg #[.string e0.key, .string e0.val, .bool e0.gone], .bool true]) ∧ Ext W w') := fun W hx => by
      have := CG W hx; rw [hg] at this; exact this
    clear CG CC HTB HLN HA HG hg k0 k3 k4 k6
    obtain ⟨ek, ev, eg⟩ := e0
    dsimp only at CG2
    go_enter Tryz.func55, Tryz.ntmps55
    go_wp2_with (go_at_call 88; refine (CG2.out _ hx0).mono ?_; rintro e w1 ⟨rfl, hx1⟩; have B4 := hb4.ext hx1; have f0 := B4.free 0; have f1 := B4.free 1; have f2 := B4.free 2; have g0 := B4.cell 0; have g1 := B4.cell 1; have g2 := B4.cell 2; have hlt := (hb4.ext hx1).lt; clear B4)
    have B4 := ((((hb4.ext hx1).set 0 (.string ek)).set 1 (.string ev)).set 2 (.bool eg)).alloc (.cells #[.string ek, .string ev, .bool eg] 49)
    have e0 := B4.cell 0
    have e1 := B4.cell 1
    have e2 := B4.cell 2
    refine bodyPost_ret (v := .tuple #[.agg #[.string ek, .string ev, .bool eg], .bool true, .nilIface]) (by simp [results, go_sem, e0, e1, e2]) rfl ⟨rfl, ?_⟩
    exact ((((hx0.trans hx1).set (p := ⟨w.heap.size, 0, none⟩) (Nat.le_refl _) _).set (p := ⟨w.heap.size, 1, none⟩) (Nat.le_refl _) _).set (p := ⟨w.heap.size, 2, none⟩) (Nat.le_refl _) _).alloc _
  | none =>
    have HG : Hid (getE (hand :: tabsE ts).flatten key = getE (tabsE ts).flatten key) := by rw [Hid, List.flatten_cons, getE_app, hg]; rfl
    rw [HG.out]
    have CG2 : Hid (∀ W, Ext w W → Calls Tryz.prog 88 #[.pointer (some ⟨hb, 0, none⟩), .string key] W fun e w' => e = .returned (.tuple #[.agg #[.string ⟨#[]⟩, .string ⟨#[]⟩, .bool false], .bool false]) ∧ Ext W w') := fun W hx => by
      have := CG W hx; rw [hg] at this; exact this
    clear CG HLN HG hg k0 k3 k4 k6 hll
    go_enter Tryz.func55, Tryz.ntmps55
    go_wp2_with (go_at_call 88; refine (CG2.out _ hx0).mono ?_; rintro e w1 ⟨rfl, hx1⟩; have hlt := (hb4.ext hx1).lt)
    have hx1a : Ext w (w1.alloc (.cells #[.string ⟨#[]⟩, .string ⟨#[]⟩, .bool false] 49)) := (hx0.trans hx1).alloc _
    have b4a := (hb4.ext hx1).alloc (.cells #[.string ⟨#[]⟩, .string ⟨#[]⟩, .bool false] 49)
    generalize w1.alloc (.cells #[.string ⟨#[]⟩, .string ⟨#[]⟩, .bool false] 49) = wa at *
    obtain ⟨r3, r4⟩ := HK34.out
    have s3 := hx1a.cell r3
    have s4 := hx1a.cell r4
    clear r3 r4 hx1 hlt hb4 z6 hx0 CG2
    go_region_held3 (fun w' => w'.cell? ⟨sb, 3, none⟩ = some (.slice x.a1 m.nw.length x.c1) ∧ w'.cell? ⟨sb, 4, none⟩ = some (.slice x.a2 m.od.length x.c2))
      (first | (go_keep; done) | exact ⟨hw2.cell s3, hw2.cell s4⟩)
      (first | (go_at_call 81; refine (CC.out _ _ _ (by repeat (first | exact hx1a | refine Ext.drew ?_ | refine Ext.drewN ?_ _ | refine Ext.alloc ?_ _)) (by first | exact Blk.new _ _ _ | exact Blk.drewN (Blk.new _ _ _) _ | exact Blk.drew (Blk.new _ _ _))).mono ?_; rintro e w2 ⟨ao, c, rfl, hN2, hx2, hb2⟩; have hw2 : Ext wa w2 := Ext.trans (by repeat (first | exact Ext.refl _ | refine Ext.drew ?_ | refine Ext.drewN ?_ _ | refine Ext.alloc ?_ _)) hx2))
    have HX2 : Hid (Ext w w2) := hx1a.trans hw2
    have HN2 : Hid (NumsAt w2 ao (m.nw ++ m.od)) := hN2
    have b4b := b4a.ext hw2
    clear hN2 hx2 hb2 hw2 CC s3 s4 b4a hx1a
    go_wp2
    go_loopw [10, 11, 12, 13, 38] (fun _ _ _ _ i wr => ∃ (k : Nat), k ≤ ts.length ∧ i = .int .i64 k ∧ getE (tabsE ts).flatten key = getE (tabsE (ts.drop k)).flatten key ∧ Ext w2 wr) (fun _ _ _ _ i _ => ts.length - (intOf i).toNat)
    case atStart => exact ⟨0, Nat.zero_le _, rfl, rfl, Ext.refl _⟩
    case round =>
      obtain ⟨k, hk, rfl, hgk, hxr⟩ := hrel
      have hx0 := HX2.out.trans hxr
      have b4c := b4b.ext hxr
      by_cases hlt : k < ts.length
      · obtain ⟨y, hy⟩ : ∃ y, ts[k]? = some y := ⟨ts[k], List.getElem?_eq_getElem hlt⟩
        obtain ⟨hyb, hyt⟩ := HTB.out k y hy
        obtain ⟨b, off, z, rfl, hz, hc⟩ := (HN2.out.ext hxr).get (show k < (m.nw ++ m.od).length by omega)
        obtain rfl : z = (y.b : Int) := by rw [hz] at hyb; exact Option.some.inj hyb
        have hdk : getE (tabsE (ts.drop k)).flatten key = (getE y.es key).or (getE (tabsE (ts.drop (k + 1))).flatten key) := by
          rw [List.drop_eq_getElem_cons hlt, (List.getElem?_eq_some_iff.1 hy).2]
          show getE (y.es :: tabsE (ts.drop (k + 1))).flatten key = _
          rw [List.flatten_cons, getE_app]
        have HAW := HA.out wr y hx0 hyt
        have q0 := hx0.cell HK0.out
        cases hge : getE y.es key with
        | none =>
          have HGK : Hid (getE (tabsE ts).flatten key = getE (tabsE (ts.drop (k + 1))).flatten key) := by rw [Hid, hgk, hdk, hge]; rfl
          rw [hge] at HAW
          have HAW2 : Hid (Calls Tryz.prog 89 #[.pointer (some ⟨cb, 0, none⟩), .int .i64 (y.b : Int), .string key] wr fun e w' => e = .returned (.tuple #[.agg #[.string ⟨#[]⟩, .string ⟨#[]⟩, .bool false], .bool false, .nilIface]) ∧ Ext wr w') := HAW
          clear HAW hyb hyt hz hy hdk hge hgk HA HTB b4c
          generalize y.b = yb at *
          go_wp2_with (go_at_call 89; refine HAW2.out.mono ?_; rintro e w3 ⟨rfl, hx3⟩)
          go_roundw
          case rel => exact ⟨k + 1, by omega, by go_num, HGK.out, (hxr.trans hx3).alloc _⟩
          case measure => simp [intOf]; omega
        | some e0 =>
          have HGK : Hid (getE (tabsE ts).flatten key = some e0) := by rw [Hid, hgk, hdk, hge]; rfl
          rw [hge] at HAW
          obtain ⟨ek, ev, eg⟩ := e0
          have HAW2 : Hid (Calls Tryz.prog 89 #[.pointer (some ⟨cb, 0, none⟩), .int .i64 (y.b : Int), .string key] wr fun e w' => e = .returned (.tuple #[.agg #[.string ek, .string ev, .bool eg], .bool true, .nilIface]) ∧ Ext wr w') := HAW
          clear HAW hyb hyt hz hy hdk hge hgk HA HTB
          generalize y.b = yb at *
          go_wp2_with (go_at_call 89; refine HAW2.out.mono ?_; rintro e w3 ⟨rfl, hx3⟩; have B4 := b4c.ext hx3; have f0 := B4.free 0; have f1 := B4.free 1; have f2 := B4.free 2; have g0 := B4.cell 0; have g1 := B4.cell 1; have g2 := B4.cell 2; have hlt3 := (b4c.ext hx3).lt; clear B4)
          have B4 := ((((b4c.ext hx3).set 0 (.string ek)).set 1 (.string ev)).set 2 (.bool eg)).alloc (.cells #[.string ek, .string ev, .bool eg] 49)
          have e0 := B4.cell 0
          have e1 := B4.cell 1
          have e2 := B4.cell 2
          refine bodyPost_ret (v := .tuple #[.agg #[.string ek, .string ev, .bool eg], .bool true, .nilIface]) (by simp [results, go_sem, e0, e1, e2]) rfl ⟨by rw [HGK.out]; rfl, ?_⟩
          exact ((((hx0.trans hx3).set (p := ⟨w.heap.size, 0, none⟩) (Nat.le_refl _) _).set (p := ⟨w.heap.size, 1, none⟩) (Nat.le_refl _) _).set (p := ⟨w.heap.size, 2, none⟩) (Nat.le_refl _) _).alloc _
      · have HGK : Hid (getE (tabsE ts).flatten key = none) := by rw [Hid, hgk, List.drop_of_length_le (by omega)]; rfl
        have f0 := b4c.free 0
        have f1 := b4c.free 1
        have f2 := b4c.free 2
        have g0 := b4c.cell 0
        have g1 := b4c.cell 1
        have g2 := b4c.cell 2
        have hlt3 := b4c.lt
        clear hgk HA HTB
        go_wp2
        have B4 := (((b4c.set 0 (.string ⟨#[]⟩)).set 1 (.string ⟨#[]⟩)).set 2 (.bool false))
        have e0 := B4.cell 0
        have e1 := B4.cell 1
        have e2 := B4.cell 2
        refine bodyPost_ret (v := .tuple #[.agg #[.string ⟨#[]⟩, .string ⟨#[]⟩, .bool false], .bool false, .nilIface]) (by simp [results, go_sem, e0, e1, e2]) rfl ⟨by rw [HGK.out]; rfl, ?_⟩
        exact ((hx0.set (p := ⟨w.heap.size, 0, none⟩) (Nat.le_refl _) _).set (p := ⟨w.heap.size, 1, none⟩) (Nat.le_refl _) _).set (p := ⟨w.heap.size, 2, none⟩) (Nat.le_refl _) _
/-- What Get answers. -/
def getR (o : Option Ent) : Value := match liveO o with
  | some e => .tuple #[.string e.val, .bool true, .nilIface]
  | none => .tuple #[.string ⟨#[]⟩, .bool false, .nilIface]
set_option maxRecDepth 20000 in
set_option maxHeartbeats 2000000 in
theorem sget_any (w : World) (S : List Nat) (sb cb : Nat) (M : CM) (m : Man) (a : Nat) (x : SMem) (N O : List Tb) (key : ByteArray) (h : StoAt w S sb cb M m a x) (hp : M.pend = none) (hnw : m.nw = N.map (fun x => (x.b : Int))) (hod : m.od = O.map (fun x => (x.b : Int)))
    (htn : ∀ y ∈ N, TabAt M y.b y.es) (hto : ∀ y ∈ O, TabAt M y.b y.es) (hl : N.length + O.length ≤ 20) (hks : key.size ≤ 4611686018427387904) :
    Calls Tryz.prog 22 #[.pointer (some ⟨sb, 0, none⟩), .string key] w fun e w' => e = .returned (getR (getE (x.ns.map Nd.e :: tabsE (N ++ O)).flatten key)) ∧ Ext w w' := by
  have k0 := h.blk.cell 0
  simp [storeC] at k0
  have HD : Hid (Calls Tryz.prog 48 #[.pointer (some ⟨cb, 0, none⟩)] w fun e w' => e = .returned (.bool false) ∧ w = w') := by
    have := down_any cb M w h.chip
    rw [show downB M = false by unfold downB; rw [hp]; rfl] at this
    exact this.mono fun _ _ h => ⟨h.1, h.2.symm⟩
  have CN := newest_any w S sb cb M m a x N O key h hp hnw hod htn hto hl hks
  clear h hp hnw hod htn hto hl hks
  generalize getE (x.ns.map Nd.e :: tabsE (N ++ O)).flatten key = o at *
  cases o with
  | none =>
    have CN2 : Hid (Calls Tryz.prog 55 #[.pointer (some ⟨sb, 0, none⟩), .string key] w fun e w' => e = .returned (.tuple #[.agg #[.string ⟨#[]⟩, .string ⟨#[]⟩, .bool false], .bool false, .nilIface]) ∧ Ext w w') := CN
    clear CN
    go_enter Tryz.func22, Tryz.ntmps22
    go_wp2_with (first
      | (go_at_call 48; refine HD.out.mono ?_; rintro e w1 ⟨rfl, rfl⟩)
      | (go_at_call 55; refine CN2.out.mono ?_; rintro e w2 ⟨rfl, hx2⟩))
    go_ret3
    exact ⟨rfl, hx2.alloc _⟩
  | some e0 =>
    obtain ⟨ek, ev, eg⟩ := e0
    have CN2 : Hid (Calls Tryz.prog 55 #[.pointer (some ⟨sb, 0, none⟩), .string key] w fun e w' => e = .returned (.tuple #[.agg #[.string ek, .string ev, .bool eg], .bool true, .nilIface]) ∧ Ext w w') := CN
    clear CN
    cases eg with
    | true =>
      go_enter Tryz.func22, Tryz.ntmps22
      go_wp2_with (first
        | (go_at_call 48; refine HD.out.mono ?_; rintro e w1 ⟨rfl, rfl⟩)
        | (go_at_call 55; refine CN2.out.mono ?_; rintro e w2 ⟨rfl, hx2⟩))
      go_ret3
      exact ⟨rfl, hx2.alloc _⟩
    | false =>
      go_enter Tryz.func22, Tryz.ntmps22
      go_wp2_with (first
        | (go_at_call 48; refine HD.out.mono ?_; rintro e w1 ⟨rfl, rfl⟩)
        | (go_at_call 55; refine CN2.out.mono ?_; rintro e w2 ⟨rfl, hx2⟩))
      go_ret3
      exact ⟨rfl, hx2.alloc _⟩
end Go.Proofs.YtjeinblcpejpnabGreatDoor
