/- StoH StoI StoJ StoQ StoS StoT. -/
import Derived.Test.YtkibgflbidkalaaGreatDoorStoGJ
import Derived.Test.YtkibgflbidkalaaGreatDoorStoEJ
import Derived.Test.YtkibgflbidkalaaGreatDoorStoPJ

/- A store in memory: its rows. -/
namespace Go.Proofs.YtkibgflbidkalaaGreatDoor
open Go.RowKit Go.WideShapes

structure RetE (w w' : World) (v : Value) (es : List Ent) : Prop where
  ex : ∃ ao c, v = .slice ao es.length c ∧ es.length ≤ c ∧ EntsAt w' ao es ∧ (∀ a, ao = some a → w.heap.size ≤ a.block ∧ ∃ cs, Blk w' a.block cs 56) ∧ Ext w w'
theorem Lst.retE {W0 w w' : World} {v : Value} {es : List Ent} (h : Lst w w' v es) (hx : Ext W0 w) : RetE W0 w' v es := by
  obtain ⟨ao, cap, hv, ha⟩ := h.at
  have ho := h.own
  rw [hv] at ho
  exact ⟨ao, cap, hv, own_cap ho, ha, fun a e => ⟨Nat.le_trans hx.size (own_ge ho a.block (by rw [e]; rfl)), own_blk ho a e⟩, hx.trans h.ext⟩
set_option maxRecDepth 20000 in
set_option maxHeartbeats 4000000 in
theorem rowsWith_any (w : World) (S : List Nat) (sb cb : Nat) (M : CM) (m : Man) (a : Nat) (x : SMem) (N O : List Tb) (co : Option Addr) (cc : Nat) (ces : List Ent) (h : StoAt w S sb cb M m a x) (hp : M.pend = none) (hnw : m.nw = N.map (fun x => (x.b : Int))) (hod : m.od = O.map (fun x => (x.b : Int)))
    (htn : ∀ y ∈ N, TabAt M y.b y.es) (hto : ∀ y ∈ O, TabAt M y.b y.es) (hl : N.length + O.length ≤ 10) (hh : x.ns.length ≤ 40)
    (hc1 : ces.length ≤ cc) (hc2 : ces.length ≤ 40) (hc3 : Ris ces) (hc4 : EntsAt w co ces) (hc5 : ∀ a, co = some a → ∃ cs, Blk w a.block cs 56) :
    Calls Tryz.prog 130 #[.pointer (some ⟨sb, 0, none⟩), .slice co ces.length cc] w fun e w' => ∃ v, e = .returned (.tuple #[v, .nilIface]) ∧ RetE w w' v (liveE (allE (ces :: x.ns.map Nd.e :: (tabsE N ++ tabsE O)))) := by
  have CT : Hid (Calls Tryz.prog 103 #[.pointer (some ⟨sb, 0, none⟩)] w fun e w' => TabsE w w' e (N ++ O)) := tables_any w S sb cb M m a x N O h hp hnw hod htn hto (by omega)
  have k6 := h.blk.cell 6
  simp [storeC] at k6
  have CH : Hid (∀ W, Ext w W → Calls Tryz.prog 131 #[.pointer (some ⟨x.hb, 0, none⟩)] W fun e w' => ∃ v, e = .returned v ∧ Lst W w' v (x.ns.map Nd.e)) := fun W hx => tall_any x.hb x.ns W (h.tow.ext hx) (by omega)
  have HK6 : Hid (w.cell? ⟨sb, 6, none⟩ = some (.pointer (some ⟨x.hb, 0, none⟩))) := k6
  have HTE : Hid (tabsE (N ++ O) = tabsE N ++ tabsE O) := by rw [Hid]; simp [tabsE]
  have HFT : Hid (∀ l ∈ tabsE (N ++ O), Ris l ∧ l.length ≤ 40) := fun l hl => by
    obtain ⟨y, hy, rfl⟩ := List.mem_map.1 hl
    have ht : TabAt M y.b y.es := by
      rcases List.mem_append.1 hy with h' | h'
      · exact htn y h'
      · exact hto y h'
    exact ⟨tabF_ris ht.ok, by have := (tabF_zero ht.ok).2.1; omega⟩
  have HTL : Hid ((tabsE (N ++ O)).length ≤ 10) := by rw [Hid]; simp [tabsE]; omega
  have HRH : Hid (Ris (x.ns.map Nd.e)) := h.tow.g.ris
  have HC3 : Hid (Ris ces) := hc3
  have HC4 : Hid (EntsAt w co ces) := hc4
  have HC5 : Hid (∀ a, co = some a → ∃ cs, Blk w a.block cs 56) := hc5
  rw [← HTE.out]
  clear h hp hnw hod htn hto hl hc3 hc4 hc5 HTE k6
  generalize x.hb = hb at *
  generalize hhe : x.ns.map Nd.e = hand at *
  have hhl : hand.length ≤ 40 := by rw [← hhe]; simp; exact hh
  clear hhe hh
  generalize N ++ O = ts at *
  go_enter Tryz.func130, Tryz.ntmps130
  go_wp2_with (first
    | (go_at_call 103; refine CT.out.mono ?_; rintro e w1 ⟨ao1, c1, ls, rfl, hlc, hcl, heo, hls, hx1⟩; have q6 := hx1.cell HK6.out)
    | (go_at_call 131; refine (CH.out _ hx1).mono ?_; rintro e w2 ⟨v2, rfl, hL2⟩; obtain ⟨o2, n2, hv2, hE2⟩ := hL2.at; have hcap2 := own_cap (hv2 ▸ hL2.own); have hbk2 := own_blk (hv2 ▸ hL2.own); have hx2 := hL2.ext; subst hv2; clear hL2))
  have hxW : Ext w2 ((w2.alloc (.cells #[.slice co ces.length cc, .slice o2 hand.length n2] 31)).alloc (.cells #[.slice (some ⟨w2.heap.size, 0, none⟩) 2 2, .slice ao1 ls.length c1] 152)) := ((Ext.refl w2).alloc _).alloc _
  have hb1 : Blk ((w2.alloc (.cells #[.slice co ces.length cc, .slice o2 hand.length n2] 31)).alloc (.cells #[.slice (some ⟨w2.heap.size, 0, none⟩) 2 2, .slice ao1 ls.length c1] 152)) w2.heap.size #[.slice co ces.length cc, .slice o2 hand.length n2] 31 := (Blk.new _ _ _).alloc _
  have hb2 : Blk ((w2.alloc (.cells #[.slice co ces.length cc, .slice o2 hand.length n2] 31)).alloc (.cells #[.slice (some ⟨w2.heap.size, 0, none⟩) 2 2, .slice ao1 ls.length c1] 152)) (w2.heap.size + 1) #[.slice (some ⟨w2.heap.size, 0, none⟩) 2 2, .slice ao1 ls.length c1] 152 := Blk.new' _ _ _ (by simp)
  have hx12 : Ext w1 ((w2.alloc (.cells #[.slice co ces.length cc, .slice o2 hand.length n2] 31)).alloc (.cells #[.slice (some ⟨w2.heap.size, 0, none⟩) 2 2, .slice ao1 ls.length c1] 152)) := hx2.trans hxW
  generalize (w2.alloc (.cells #[.slice co ces.length cc, .slice o2 hand.length n2] 31)).alloc (.cells #[.slice (some ⟨w2.heap.size, 0, none⟩) 2 2, .slice ao1 ls.length c1] 152) = W at *
  have hL3 : Lists3 W (some ⟨w2.heap.size + 1, 0, none⟩) [⟨[⟨ces, co, cc⟩, ⟨hand, o2, n2⟩], some ⟨w2.heap.size, 0, none⟩, 2⟩, ⟨ls, ao1, c1⟩] := fun _ => by
    refine ⟨w2.heap.size + 1, 0, rfl, fun i l hl => ?_⟩
    rw [Nat.zero_add, hb2.cell]
    match i with
    | 0 =>
      simp at hl; subst hl
      refine ⟨rfl, fun _ => ⟨w2.heap.size, 0, rfl, fun j y hy => ?_⟩⟩
      rw [Nat.zero_add, hb1.cell]
      match j with
      | 0 => simp at hy; subst hy; rfl
      | 1 => simp at hy; subst hy; rfl
      | n + 2 => simp at hy
    | 1 => simp at hl; subst hl; exact ⟨rfl, hcl.ext hx12⟩
    | n + 2 => simp at hl
  have hlsl : ls.length ≤ 10 := by have := congrArg List.length hls; have := HTL.out; simp at *; omega
  have CC : Hid (Calls Tryz.prog 159 #[.slice (some ⟨w2.heap.size + 1, 0, none⟩) 2 2] W fun e w' => ∃ v, e = .returned v ∧ LLs W w' v (⟨ces, co, cc⟩ :: ⟨hand, o2, n2⟩ :: ls)) := by
    have := concat3_any (some ⟨w2.heap.size + 1, 0, none⟩) 2 [⟨[⟨ces, co, cc⟩, ⟨hand, o2, n2⟩], some ⟨w2.heap.size, 0, none⟩, 2⟩, ⟨ls, ao1, c1⟩] W (by simp) (by simp [cat3]; omega) hL3
    rw [show cat3 [⟨[⟨ces, co, cc⟩, ⟨hand, o2, n2⟩], some ⟨w2.heap.size, 0, none⟩, 2⟩, ⟨ls, ao1, c1⟩] = ⟨ces, co, cc⟩ :: ⟨hand, o2, n2⟩ :: ls by simp [cat3]] at this
    exact this
  have HEO : Hid (EntsOf W (⟨ces, co, cc⟩ :: ⟨hand, o2, n2⟩ :: ls)) := fun l hl => by
    rcases List.mem_cons.1 hl with rfl | hl
    · exact ⟨hc1, (HC4.out.ext hx1).ext hx12, fun a ha => (HC5.out a ha).imp fun _ hb => (hb.ext hx1).ext hx12⟩
    · rcases List.mem_cons.1 hl with rfl | hl
      · exact ⟨hcap2, hE2.ext hxW, fun a ha => (hbk2 a ha).imp fun _ hb => hb.ext hxW⟩
      · exact (heo.ext hx12) l hl
  have HFE : Hid (Few (⟨ces, co, cc⟩ :: ⟨hand, o2, n2⟩ :: ls)) := by
    have key : ∀ l ∈ ls, Ris l.es ∧ l.es.length ≤ 40 := fun l hl => HFT.out _ (by rw [← hls]; exact List.mem_map_of_mem hl)
    refine ⟨fun l hl => ?_, fun l hl => ?_⟩
    · rcases List.mem_cons.1 hl with rfl | hl
      · exact HC3.out
      · rcases List.mem_cons.1 hl with rfl | hl
        · exact HRH.out
        · exact (key l hl).1
    · rcases List.mem_cons.1 hl with rfl | hl
      · exact hc2
      · rcases List.mem_cons.1 hl with rfl | hl
        · exact hhl
        · exact (key l hl).2
  have HAL : Hid (alls (⟨ces, co, cc⟩ :: ⟨hand, o2, n2⟩ :: ls) = allE (ces :: hand :: tabsE ts)) := by
    rw [Hid, ← hls]; rfl
  have HX : Hid (Ext w W) := hx1.trans hx12
  have CA : Hid (∀ W' ao c, Ext W W' → (⟨ces, co, cc⟩ :: ⟨hand, o2, n2⟩ :: ls : List LE).length ≤ c → ListsAt W' ao (⟨ces, co, cc⟩ :: ⟨hand, o2, n2⟩ :: ls) → Calls Tryz.prog 106 #[.slice ao (⟨ces, co, cc⟩ :: ⟨hand, o2, n2⟩ :: ls : List LE).length c] W' fun e w' => RetL W' w' e (alls (⟨ces, co, cc⟩ :: ⟨hand, o2, n2⟩ :: ls))) := fun W' ao c _ h1 h2 => all_any 20 ao c _ W' (by simp; omega) (by simp; omega) h1 HFE.out h2
  have HALL : Hid ((alls (⟨ces, co, cc⟩ :: ⟨hand, o2, n2⟩ :: ls)).length ≤ 1000) := by
    have := alls_len HFE.out
    rw [Hid]; simp at this; omega
  have CL : Hid (∀ W' ao c, EntsAt W' ao (alls (⟨ces, co, cc⟩ :: ⟨hand, o2, n2⟩ :: ls)) → Calls Tryz.prog 105 #[.slice ao (alls (⟨ces, co, cc⟩ :: ⟨hand, o2, n2⟩ :: ls)).length c] W' fun e w' => ∃ v, e = .returned v ∧ Lst W' w' v (liveE (alls (⟨ces, co, cc⟩ :: ⟨hand, o2, n2⟩ :: ls)))) := fun W' ao c he => live_any ao c _ W' HALL.out he
  clear hL3 hb1 hb2 hx12 hxW heo hcl hls hE2 hbk2 hcap2 hx2 hx1 hlc hlsl hc1 hc2 hhl CT CH HALL HFE HFT HTL q6
  generalize hall : (⟨ces, co, cc⟩ :: ⟨hand, o2, n2⟩ :: ls : List LE) = all at *
  clear hall
  generalize alls all = res at *
  go_wp2_with (first
    | (go_at_call 159; refine CC.out.mono ?_; rintro e w3 ⟨v3, rfl, hL3⟩; have he3 := HEO.out.ext hL3.ext; obtain ⟨o3, n3, hv3, hn3, hl3⟩ := hL3.at he3; subst hv3; have hx3 := hL3.ext; clear hL3)
    | (go_at_call 106; refine (CA.out _ _ _ hx3 hn3 hl3).mono ?_; rintro e w4 ⟨o4, n4, rfl, hn4, he4, hx4⟩)
    | (go_at_call 105; refine (CL.out _ _ _ he4).mono ?_; rintro e w5 ⟨v5, rfl, hL5⟩))
  go_ret2
  exact ⟨v5, rfl, by rw [← HAL.out]; exact hL5.retE ((HX.out.trans hx3).trans hx4)⟩
set_option maxHeartbeats 1000000 in
theorem rows_any (w : World) (S : List Nat) (sb cb : Nat) (M : CM) (m : Man) (a : Nat) (x : SMem) (N O : List Tb) (h : StoAt w S sb cb M m a x) (hp : M.pend = none) (hnw : m.nw = N.map (fun x => (x.b : Int))) (hod : m.od = O.map (fun x => (x.b : Int)))
    (htn : ∀ y ∈ N, TabAt M y.b y.es) (hto : ∀ y ∈ O, TabAt M y.b y.es) (hl : N.length + O.length ≤ 10) (hh : x.ns.length ≤ 40) :
    Calls Tryz.prog 138 #[.pointer (some ⟨sb, 0, none⟩)] w fun e w' => ∃ v, e = .returned (.tuple #[v, .nilIface]) ∧ RetE w w' v (rowsE (x.ns.map Nd.e) N O) := by
  have CR : Hid (Calls Tryz.prog 130 #[.pointer (some ⟨sb, 0, none⟩), .slice none 0 0] w fun e w' => ∃ v, e = .returned (.tuple #[v, .nilIface]) ∧ RetE w w' v (rowsE (x.ns.map Nd.e) N O)) :=
    rowsWith_any w S sb cb M m a x N O none 0 [] h hp hnw hod htn hto hl hh (by simp) (by simp) Ris.nil (fun h => absurd rfl h) (fun a ha => by cases ha)
  clear h hp hnw hod htn hto hl hh
  go_enter Tryz.func138, Tryz.ntmps138
  go_wp2_with (go_at_call 130; refine CR.out.mono ?_; rintro e w1 ⟨v1, rfl, hR⟩)
  go_ret2
  exact ⟨v1, rfl, hR⟩
end Go.Proofs.YtkibgflbidkalaaGreatDoor

/- A store in memory: what a key has. -/
namespace Go.Proofs.YtkibgflbidkalaaGreatDoor
open Go.RowKit Go.WideShapes

set_option maxRecDepth 20000 in
set_option maxHeartbeats 4000000 in
theorem newest_any (w : World) (S : List Nat) (sb cb : Nat) (M : CM) (m : Man) (a : Nat) (x : SMem) (N O : List Tb) (key : ByteArray) (h : StoAt w S sb cb M m a x) (hp : M.pend = none) (hnw : m.nw = N.map (fun x => (x.b : Int))) (hod : m.od = O.map (fun x => (x.b : Int)))
    (htn : ∀ y ∈ N, TabAt M y.b y.es) (hto : ∀ y ∈ O, TabAt M y.b y.es) (hl : N.length + O.length ≤ 20) (hks : key.size ≤ 4611686018427387904) :
    Calls Tryz.prog 149 #[.pointer (some ⟨sb, 0, none⟩), .string key] w fun e w' => e = .returned (got3 (getE (x.ns.map Nd.e :: tabsE (N ++ O)).flatten key)) ∧ Ext w w' := by
  have k0 := h.blk.cell 0
  have k3 := h.blk.cell 3
  have k4 := h.blk.cell 4
  have k6 := h.blk.cell 6
  simp [storeC] at k0 k3 k4 k6
  have CG := fun W (hx : Ext w W) => get_any x.hb x.ns key W (h.tow.ext hx)
  have hll : m.nw.length + m.od.length ≤ 100 := by rw [hnw, hod]; simp; omega
  have CC : Hid (∀ W b t, Ext w W → Blk W b #[.slice x.a1 m.nw.length x.c1, .slice x.a2 m.od.length x.c2] t → Calls Tryz.prog 42 #[.slice (some ⟨b, 0, none⟩) 2 2] W fun e w' => ∃ ao c, e = .returned (.slice ao (m.nw ++ m.od).length c) ∧ NumsAt w' ao (m.nw ++ m.od) ∧ Ext W w' ∧ ∀ a, ao = some a → W.heap.size ≤ a.block ∧ a.block < w'.heap.size) := fun W b t hx hb => concatNN W b x.a1 x.a2 x.c1 x.c2 m.nw m.od t hb (h.nw.ext hx) (h.od.ext hx) hll
  have HTB : Hid (∀ (i : Nat) (y : Tb), (N ++ O)[i]? = some y → (m.nw ++ m.od)[i]? = some (y.b : Int) ∧ TabAt M y.b y.es) := fun i y hy => by
    refine ⟨by rw [hnw, hod, ← List.map_append, List.getElem?_map, hy]; rfl, ?_⟩
    rcases List.mem_append.1 (List.mem_of_getElem? hy) with h' | h'
    · exact htn y h'
    · exact hto y h'
  have HLN : Hid ((m.nw ++ m.od).length = (N ++ O).length) := by rw [Hid, hnw, hod]; simp
  have HA : Hid (∀ W (y : Tb), Ext w W → TabAt M y.b y.es → Calls Tryz.prog 172 #[.pointer (some ⟨cb, 0, none⟩), .int .i64 (y.b : Int), .string key] W fun e w' => e = .returned (got3 (getE y.es key)) ∧ Ext W w') := fun W y hx ht => tabGet_any cb y.b y.es key M W (h.chip.ext hx) hp ht hks
  have HK0 : Hid (w.cell? ⟨sb, 0, none⟩ = some (.pointer (some ⟨cb, 0, none⟩))) := k0
  have HK34 : Hid (w.cell? ⟨sb, 3, none⟩ = some (.slice x.a1 m.nw.length x.c1) ∧ w.cell? ⟨sb, 4, none⟩ = some (.slice x.a2 m.od.length x.c2)) := ⟨k3, k4⟩
  have hNO : (N ++ O).length ≤ 20 := by simp; omega
  have hlen1 := HLN.out
  clear h hnw hod htn hto hl
  generalize N ++ O = ts at *
  generalize x.hb = hb at *
  generalize x.ns.map Nd.e = hand at *
  have hb4 : Blk (w.alloc (.cells #[.string ⟨#[]⟩, .string ⟨#[]⟩, .bool false] 56)) w.heap.size #[.string ⟨#[]⟩, .string ⟨#[]⟩, .bool false] 56 := Blk.new _ _ _
  have hx0 : Ext w (w.alloc (.cells #[.string ⟨#[]⟩, .string ⟨#[]⟩, .bool false] 56)) := (Ext.refl w).alloc _
  have z6 := hx0.cell k6
  cases hg : getE hand key with
  | some e0 =>
    have HG : Hid (getE (hand :: tabsE ts).flatten key = some e0) := by rw [Hid, List.flatten_cons, getE_app, hg]; rfl
    rw [HG.out]
    have CG2 : Hid (∀ W, Ext w W → Calls Tryz.prog 171 #[.pointer (some ⟨hb, 0, none⟩), .string key] W fun e w' => e = .returned (.tuple #[.agg #[.string e0.key, .string e0.val, .bool e0.gone], .bool true]) ∧ Ext W w') := fun W hx => by
      have := CG W hx; rw [hg] at this; exact this
    clear CG CC HTB HLN HA HG hg k0 k3 k4 k6
    obtain ⟨ek, ev, eg⟩ := e0
    dsimp only at CG2
    go_enter Tryz.func149, Tryz.ntmps149
    go_wp2_with (go_at_call 171; refine (CG2.out _ hx0).mono ?_; rintro e w1 ⟨rfl, hx1⟩; have B4 := hb4.ext hx1; have f0 := B4.free 0; have f1 := B4.free 1; have f2 := B4.free 2; have g0 := B4.cell 0; have g1 := B4.cell 1; have g2 := B4.cell 2; have hlt := (hb4.ext hx1).lt; clear B4)
    have B4 := ((((hb4.ext hx1).set 0 (.string ek)).set 1 (.string ev)).set 2 (.bool eg)).alloc (.cells #[.string ek, .string ev, .bool eg] 56)
    have e0 := B4.cell 0
    have e1 := B4.cell 1
    have e2 := B4.cell 2
    refine bodyPost_ret (v := .tuple #[.agg #[.string ek, .string ev, .bool eg], .bool true, .nilIface]) (by simp [results, go_sem, e0, e1, e2]) rfl ⟨rfl, ?_⟩
    exact ((((hx0.trans hx1).set (p := ⟨w.heap.size, 0, none⟩) (Nat.le_refl _) _).set (p := ⟨w.heap.size, 1, none⟩) (Nat.le_refl _) _).set (p := ⟨w.heap.size, 2, none⟩) (Nat.le_refl _) _).alloc _
  | none =>
    have HG : Hid (getE (hand :: tabsE ts).flatten key = getE (tabsE ts).flatten key) := by rw [Hid, List.flatten_cons, getE_app, hg]; rfl
    rw [HG.out]
    have CG2 : Hid (∀ W, Ext w W → Calls Tryz.prog 171 #[.pointer (some ⟨hb, 0, none⟩), .string key] W fun e w' => e = .returned (.tuple #[.agg #[.string ⟨#[]⟩, .string ⟨#[]⟩, .bool false], .bool false]) ∧ Ext W w') := fun W hx => by
      have := CG W hx; rw [hg] at this; exact this
    clear CG HLN HG hg k0 k3 k4 k6 hll
    go_enter Tryz.func149, Tryz.ntmps149
    go_wp2_with (go_at_call 171; refine (CG2.out _ hx0).mono ?_; rintro e w1 ⟨rfl, hx1⟩; have hlt := (hb4.ext hx1).lt)
    have hx1a : Ext w (w1.alloc (.cells #[.string ⟨#[]⟩, .string ⟨#[]⟩, .bool false] 56)) := (hx0.trans hx1).alloc _
    have b4a := (hb4.ext hx1).alloc (.cells #[.string ⟨#[]⟩, .string ⟨#[]⟩, .bool false] 56)
    generalize w1.alloc (.cells #[.string ⟨#[]⟩, .string ⟨#[]⟩, .bool false] 56) = wa at *
    obtain ⟨r3, r4⟩ := HK34.out
    have s3 := hx1a.cell r3
    have s4 := hx1a.cell r4
    clear r3 r4 hx1 hlt hb4 z6 hx0 CG2
    go_region_held3 (fun w' => w'.cell? ⟨sb, 3, none⟩ = some (.slice x.a1 m.nw.length x.c1) ∧ w'.cell? ⟨sb, 4, none⟩ = some (.slice x.a2 m.od.length x.c2))
      (first | (go_keep; done) | exact ⟨hw2.cell s3, hw2.cell s4⟩)
      (first | (go_at_call 42; refine (CC.out _ _ _ (by repeat (first | exact hx1a | refine Ext.drew ?_ | refine Ext.drewN ?_ _ | refine Ext.alloc ?_ _)) (by first | exact Blk.new _ _ _ | exact Blk.drewN (Blk.new _ _ _) _ | exact Blk.drew (Blk.new _ _ _))).mono ?_; rintro e w2 ⟨ao, c, rfl, hN2, hx2, hb2⟩; have hw2 : Ext wa w2 := Ext.trans (by repeat (first | exact Ext.refl _ | refine Ext.drew ?_ | refine Ext.drewN ?_ _ | refine Ext.alloc ?_ _)) hx2))
    have HX2 : Hid (Ext w w2) := hx1a.trans hw2
    have HN2 : Hid (NumsAt w2 ao (m.nw ++ m.od)) := hN2
    have b4b := b4a.ext hw2
    clear hN2 hx2 hb2 hw2 CC s3 s4 b4a hx1a
    go_wp2
    go_loopw [10, 11, 12, 13, 38] (fun _ _ _ _ i wr => ∃ (k : Nat), k ≤ ts.length ∧ i = .int .i64 k ∧ getE (tabsE ts).flatten key = getE (tabsE (ts.drop k)).flatten key ∧ Ext w2 wr) (fun _ _ _ _ i _ => ts.length - (intOf i).toNat)
    case atStart => exact ⟨0, Nat.zero_le _, rfl, rfl, Ext.refl _⟩
    case round =>
      obtain ⟨k, hk, rfl, hgk, hxr⟩ := hrel
      have hx0 := HX2.out.trans hxr
      have b4c := b4b.ext hxr
      by_cases hlt : k < ts.length
      · obtain ⟨y, hy⟩ : ∃ y, ts[k]? = some y := ⟨ts[k], List.getElem?_eq_getElem hlt⟩
        obtain ⟨hyb, hyt⟩ := HTB.out k y hy
        obtain ⟨b, off, z, rfl, hz, hc⟩ := (HN2.out.ext hxr).get (show k < (m.nw ++ m.od).length by omega)
        obtain rfl : z = (y.b : Int) := by rw [hz] at hyb; exact Option.some.inj hyb
        have hdk : getE (tabsE (ts.drop k)).flatten key = (getE y.es key).or (getE (tabsE (ts.drop (k + 1))).flatten key) := by
          rw [List.drop_eq_getElem_cons hlt, (List.getElem?_eq_some_iff.1 hy).2]
          show getE (y.es :: tabsE (ts.drop (k + 1))).flatten key = _
          rw [List.flatten_cons, getE_app]
        have HAW := HA.out wr y hx0 hyt
        have q0 := hx0.cell HK0.out
        cases hge : getE y.es key with
        | none =>
          have HGK : Hid (getE (tabsE ts).flatten key = getE (tabsE (ts.drop (k + 1))).flatten key) := by rw [Hid, hgk, hdk, hge]; rfl
          rw [hge] at HAW
          have HAW2 : Hid (Calls Tryz.prog 172 #[.pointer (some ⟨cb, 0, none⟩), .int .i64 (y.b : Int), .string key] wr fun e w' => e = .returned (.tuple #[.agg #[.string ⟨#[]⟩, .string ⟨#[]⟩, .bool false], .bool false, .nilIface]) ∧ Ext wr w') := HAW
          clear HAW hyb hyt hz hy hdk hge hgk HA HTB b4c
          generalize y.b = yb at *
          go_wp2_with (go_at_call 172; refine HAW2.out.mono ?_; rintro e w3 ⟨rfl, hx3⟩)
          go_roundw
          case rel => exact ⟨k + 1, by omega, by go_num, HGK.out, (hxr.trans hx3).alloc _⟩
          case measure => simp [intOf]; omega
        | some e0 =>
          have HGK : Hid (getE (tabsE ts).flatten key = some e0) := by rw [Hid, hgk, hdk, hge]; rfl
          rw [hge] at HAW
          obtain ⟨ek, ev, eg⟩ := e0
          have HAW2 : Hid (Calls Tryz.prog 172 #[.pointer (some ⟨cb, 0, none⟩), .int .i64 (y.b : Int), .string key] wr fun e w' => e = .returned (.tuple #[.agg #[.string ek, .string ev, .bool eg], .bool true, .nilIface]) ∧ Ext wr w') := HAW
          clear HAW hyb hyt hz hy hdk hge hgk HA HTB
          generalize y.b = yb at *
          go_wp2_with (go_at_call 172; refine HAW2.out.mono ?_; rintro e w3 ⟨rfl, hx3⟩; have B4 := b4c.ext hx3; have f0 := B4.free 0; have f1 := B4.free 1; have f2 := B4.free 2; have g0 := B4.cell 0; have g1 := B4.cell 1; have g2 := B4.cell 2; have hlt3 := (b4c.ext hx3).lt; clear B4)
          have B4 := ((((b4c.ext hx3).set 0 (.string ek)).set 1 (.string ev)).set 2 (.bool eg)).alloc (.cells #[.string ek, .string ev, .bool eg] 56)
          have e0 := B4.cell 0
          have e1 := B4.cell 1
          have e2 := B4.cell 2
          refine bodyPost_ret (v := .tuple #[.agg #[.string ek, .string ev, .bool eg], .bool true, .nilIface]) (by simp [results, go_sem, e0, e1, e2]) rfl ⟨by rw [HGK.out]; rfl, ?_⟩
          exact ((((hx0.trans hx3).set (p := ⟨w.heap.size, 0, none⟩) (Nat.le_refl _) _).set (p := ⟨w.heap.size, 1, none⟩) (Nat.le_refl _) _).set (p := ⟨w.heap.size, 2, none⟩) (Nat.le_refl _) _).alloc _
      · have HGK : Hid (getE (tabsE ts).flatten key = none) := by rw [Hid, hgk, List.drop_of_length_le (by omega)]; rfl
        have f0 := b4c.free 0
        have f1 := b4c.free 1
        have f2 := b4c.free 2
        have g0 := b4c.cell 0
        have g1 := b4c.cell 1
        have g2 := b4c.cell 2
        have hlt3 := b4c.lt
        clear hgk HA HTB
        go_wp2
        have B4 := (((b4c.set 0 (.string ⟨#[]⟩)).set 1 (.string ⟨#[]⟩)).set 2 (.bool false))
        have e0 := B4.cell 0
        have e1 := B4.cell 1
        have e2 := B4.cell 2
        refine bodyPost_ret (v := .tuple #[.agg #[.string ⟨#[]⟩, .string ⟨#[]⟩, .bool false], .bool false, .nilIface]) (by simp [results, go_sem, e0, e1, e2]) rfl ⟨by rw [HGK.out]; rfl, ?_⟩
        exact ((hx0.set (p := ⟨w.heap.size, 0, none⟩) (Nat.le_refl _) _).set (p := ⟨w.heap.size, 1, none⟩) (Nat.le_refl _) _).set (p := ⟨w.heap.size, 2, none⟩) (Nat.le_refl _) _
def getR (o : Option Ent) : Value := match liveO o with
  | some e => .tuple #[.string e.val, .bool true, .nilIface]
  | none => .tuple #[.string ⟨#[]⟩, .bool false, .nilIface]
set_option maxRecDepth 20000 in
set_option maxHeartbeats 2000000 in
theorem sget_any (w : World) (S : List Nat) (sb cb : Nat) (M : CM) (m : Man) (a : Nat) (x : SMem) (N O : List Tb) (key : ByteArray) (h : StoAt w S sb cb M m a x) (hp : M.pend = none) (hnw : m.nw = N.map (fun x => (x.b : Int))) (hod : m.od = O.map (fun x => (x.b : Int)))
    (htn : ∀ y ∈ N, TabAt M y.b y.es) (hto : ∀ y ∈ O, TabAt M y.b y.es) (hl : N.length + O.length ≤ 20) (hks : key.size ≤ 4611686018427387904) :
    Calls Tryz.prog 111 #[.pointer (some ⟨sb, 0, none⟩), .string key] w fun e w' => e = .returned (getR (getE (x.ns.map Nd.e :: tabsE (N ++ O)).flatten key)) ∧ Ext w w' := by
  have k0 := h.blk.cell 0
  simp [storeC] at k0
  have HD : Hid (Calls Tryz.prog 39 #[.pointer (some ⟨cb, 0, none⟩)] w fun e w' => e = .returned (.bool false) ∧ w = w') := by
    have := down_any cb M w h.chip
    rw [show downB M = false by unfold downB; rw [hp]; rfl] at this
    exact this.mono fun _ _ h => ⟨h.1, h.2.symm⟩
  have CN := newest_any w S sb cb M m a x N O key h hp hnw hod htn hto hl hks
  clear h hp hnw hod htn hto hl hks
  generalize getE (x.ns.map Nd.e :: tabsE (N ++ O)).flatten key = o at *
  cases o with
  | none =>
    have CN2 : Hid (Calls Tryz.prog 149 #[.pointer (some ⟨sb, 0, none⟩), .string key] w fun e w' => e = .returned (.tuple #[.agg #[.string ⟨#[]⟩, .string ⟨#[]⟩, .bool false], .bool false, .nilIface]) ∧ Ext w w') := CN
    clear CN
    go_enter Tryz.func111, Tryz.ntmps111
    go_wp2_with (first
      | (go_at_call 39; refine HD.out.mono ?_; rintro e w1 ⟨rfl, rfl⟩)
      | (go_at_call 149; refine CN2.out.mono ?_; rintro e w2 ⟨rfl, hx2⟩))
    go_ret3
    exact ⟨rfl, hx2.alloc _⟩
  | some e0 =>
    obtain ⟨ek, ev, eg⟩ := e0
    have CN2 : Hid (Calls Tryz.prog 149 #[.pointer (some ⟨sb, 0, none⟩), .string key] w fun e w' => e = .returned (.tuple #[.agg #[.string ek, .string ev, .bool eg], .bool true, .nilIface]) ∧ Ext w w') := CN
    clear CN
    cases eg with
    | true =>
      go_enter Tryz.func111, Tryz.ntmps111
      go_wp2_with (first
        | (go_at_call 39; refine HD.out.mono ?_; rintro e w1 ⟨rfl, rfl⟩)
        | (go_at_call 149; refine CN2.out.mono ?_; rintro e w2 ⟨rfl, hx2⟩))
      go_ret3
      exact ⟨rfl, hx2.alloc _⟩
    | false =>
      go_enter Tryz.func111, Tryz.ntmps111
      go_wp2_with (first
        | (go_at_call 39; refine HD.out.mono ?_; rintro e w1 ⟨rfl, rfl⟩)
        | (go_at_call 149; refine CN2.out.mono ?_; rintro e w2 ⟨rfl, hx2⟩))
      go_ret3
      exact ⟨rfl, hx2.alloc _⟩
end Go.Proofs.YtkibgflbidkalaaGreatDoor

/- A store in memory: a manifest is noted. -/
namespace Go.Proofs.YtkibgflbidkalaaGreatDoor
open Go.RowKit Go.WideShapes

def addrB (o : Option Addr) : List Nat := o.toList.map (·.block)
theorem mem_addrB {o : Option Addr} {b : Nat} : b ∈ addrB o ↔ ∃ p, o = some p ∧ p.block = b := by
  cases o <;> simp [addrB, eq_comm]
def withA (x : SMem) (no : Option Addr) (nc : Nat) (oo : Option Addr) (oc : Nat) : SMem := ⟨no, nc, oo, oc, x.hb, x.ns⟩
structure Apart (w : World) (sb cb : Nat) (x : SMem) (no : Option Addr) : Prop where
  d : ∀ p, no = some p → ¬ p.block = cb ∧ ¬ p.block = sb ∧ p.block ∉ x.hb :: x.ns.map Nd.b
  lt : ∀ p, no = some p → p.block < w.heap.size
  g : ∀ p, no = some p → ¬ p.block = 1
set_option maxRecDepth 20000 in
set_option maxHeartbeats 4000000 in
theorem note_sto (w : World) (S : List Nat) (sb cb : Nat) (M : CM) (m : Man) (a : Nat) (x : SMem) (m' : Man) (e0 : Int) (no oo : Option Addr) (nc oc : Nat) (h : StoAt w S sb cb M m a x) (ha : a ≤ 1) (hub : M.left ≤ 9223372036854775807) (hwr : WrOk M) (hep : m'.ep = m.ep + 1) (hep2 : m'.ep ≤ 100000) (hep0 : 0 ≤ m.ep) (hf : manFault m' = 0)
    (hn : NumsAt w no m'.nw) (ho : NumsAt w oo m'.od) (hn1 : Apart w sb cb x no) (ho1 : Apart w sb cb x oo) (hE : noteE M a (manTxt m') = 0) (hP : (noteM M a (manTxt m')).pend = none) :
    Calls Tryz.prog 107 #[.pointer (some ⟨sb, 0, none⟩), .agg #[.int .i64 e0, .int .i64 m'.lg, .slice no m'.nw.length nc, .slice oo m'.od.length oc]] w fun e w' => e = .returned .nilIface ∧ StoAt w' (S ++ addrB no ++ addrB oo) sb cb (noteM M a (manTxt m')) m' (noteAt M a) (withA x no nc oo oc) ∧ Kp w w' [cb, sb] := by
  have k0 := h.blk.cell 0
  have k1 := h.blk.cell 1
  have k5 := h.blk.cell 5
  simp [storeC] at k0 k1 k5
  have hxb : Ext w (w.alloc (.cells #[.int .i64 m'.ep, .int .i64 m'.lg, .slice no m'.nw.length nc, .slice oo m'.od.length oc] 73)) := (Ext.refl w).alloc _
  have CN : Hid (∀ W, Ext w W → Calls Tryz.prog 49 #[.pointer (some ⟨cb, 0, none⟩), .int .i64 (a : Int), .agg #[.int .i64 m'.ep, .int .i64 m'.lg, .slice no m'.nw.length nc, .slice oo m'.od.length oc]] W fun e w' => e = .returned (.tuple #[.int .i64 (noteAt M a : Int), .nilIface]) ∧ ChipAt w' cb (noteM M a (manTxt m')) ∧ W.grownBy w' (some cb)) := fun W hx => by
    refine (note_any cb a M m' no oo nc oc W (h.chip.ext hx) ha hub hwr (hn.ext hx) (ho.ext hx) hf).mono ?_
    rintro e w' ⟨h1, h2, h3⟩
    rcases h1 with ⟨_, h1⟩ | ⟨h1, _⟩
    · exact ⟨h1, h2, h3⟩
    · exact absurd hE h1
  have HH : Hid (StoAt w S sb cb M m a x) := h
  have HA : Hid (Apart w sb cb x no ∧ Apart w sb cb x oo ∧ NumsAt w no m'.nw ∧ NumsAt w oo m'.od) := ⟨hn1, ho1, hn, ho⟩
  have HP : Hid ((noteM M a (manTxt m')).pend = none) := hP
  have hslt : sb < w.heap.size := h.blk.lt
  have hclt : cb < w.heap.size := h.chip.lt
  have hsc := h.sc
  have HM : Hid (m'.ep = m.ep + 1) := hep
  have hep3 : m.ep + 1 ≤ 100000 := by omega
  rw [hep] at CN hxb
  clear h hub hwr hf hn ho hn1 ho1 hE hP hep hep2
  generalize noteM M a (manTxt m') = M2 at *
  generalize noteAt M a = a2 at *
  go_enter Tryz.func107, Tryz.ntmps107
  go_wp2
  have bx : Blk (w.alloc (.cells #[.int .i64 (m.ep + 1), .int .i64 m'.lg, .slice no m'.nw.length nc, .slice oo m'.od.length oc] 73)) w.heap.size #[.int .i64 (m.ep + 1), .int .i64 m'.lg, .slice no m'.nw.length nc, .slice oo m'.od.length oc] 73 := Blk.new _ _ _
  have z0 := hxb.cell k0
  have z5 := hxb.cell k5
  generalize w.alloc (.cells #[.int .i64 (m.ep + 1), .int .i64 m'.lg, .slice no m'.nw.length nc, .slice oo m'.od.length oc] 73) = wa at *
  have y0 := bx.cell 0
  have y1 := bx.cell 1
  have y2 := bx.cell 2
  have y3 := bx.cell 3
  simp at y0 y1 y2 y3
  have hwb : ¬ w.heap.size = cb := by omega
  have HB3 : Hid (∀ W W', Ext wa W → W.grownBy W' (some cb) → Blk W' sb (storeC cb m a x) 107 ∧ Blk W' w.heap.size #[.int .i64 (m.ep + 1), .int .i64 m'.lg, .slice no m'.nw.length nc, .slice oo m'.od.length oc] 73) := fun W W' hx hg => ⟨((HH.out.blk.ext hxb).ext hx).grown hg hsc, (bx.ext hx).grown hg hwb⟩
  have HKP : Hid (∀ W W', Ext wa W → W.grownBy W' (some cb) → Kp w W' [cb, sb]) := fun W W' hx hg => (Kp.ofExt (hxb.trans hx) _).trans ((Kp.grown hg).mono (by simp))
  have HXB : Hid (Ext w wa) := hxb
  clear hxb k0 k1 k5 bx
  go_region_held3 (fun w' => (w'.cell? ⟨sb, 0, none⟩ = some (.pointer (some ⟨cb, 0, none⟩)) ∧ w'.cell? ⟨sb, 5, none⟩ = some (.int .i64 (a : Int))) ∧ (w'.cell? ⟨w.heap.size, 0, none⟩ = some (.int .i64 (m.ep + 1)) ∧ w'.cell? ⟨w.heap.size, 1, none⟩ = some (.int .i64 m'.lg) ∧ w'.cell? ⟨w.heap.size, 2, none⟩ = some (.slice no m'.nw.length nc) ∧ w'.cell? ⟨w.heap.size, 3, none⟩ = some (.slice oo m'.od.length oc)))
    (first | (go_keep; done) | exact ⟨⟨hB3.1.cell 0, hB3.1.cell 5⟩, hB3.2.cell 0, hB3.2.cell 1, hB3.2.cell 2, hB3.2.cell 3⟩)
    (first | (go_at_call 49; refine (CN.out _ (HXB.out.trans (by repeat (first | exact Ext.refl _ | refine Ext.drew ?_ | refine Ext.drewN ?_ _ | refine Ext.alloc ?_ _)))).mono ?_; rintro e w3 ⟨rfl, hc3, hg3⟩; have hB3 := HB3.out _ _ (by repeat (first | exact Ext.refl _ | refine Ext.drew ?_ | refine Ext.drewN ?_ _ | refine Ext.alloc ?_ _)) hg3; have hK3 := HKP.out _ _ (by repeat (first | exact Ext.refl _ | refine Ext.drew ?_ | refine Ext.drewN ?_ _ | refine Ext.alloc ?_ _)) hg3))
  obtain ⟨hb3, hx3⟩ := hB3
  have u0 := hx3.cell 0
  have u1 := hx3.cell 1
  have u2 := hx3.cell 2
  have u3 := hx3.cell 3
  have v1 := hb3.cell 1
  have v2 := hb3.cell 2
  have v3 := hb3.cell 3
  have v4 := hb3.cell 4
  have v5 := hb3.cell 5
  simp [storeC] at u0 u1 u2 u3 v1 v2 v3 v4 v5
  have f1 := hb3.free 1
  have f2 := hb3.free 2
  have f3 := hb3.free 3
  have f4 := hb3.free 4
  have f5 := hb3.free 5
  have hsl3 := hb3.lt
  have HB4 : Hid (Blk w3 sb (storeC cb m a x) 107) := hb3
  clear HB3 HKP hg3 hb3 hx3 CN z0 z5 y0 y1 y2 y3
  go_wp2
  go_ret
  have hh := HH.out
  obtain ⟨n1, o1, n2, o2⟩ := HA.out
  have hset : ∀ {W : World}, Kp w W [cb, sb] → ∀ i v, Kp w (W.setCell ⟨sb, i, none⟩ v) [cb, sb] := fun hk i v => hk.trans (Kp.set _ (by simp) v)
  have hK9 := hset (hset (hset (hset (hset hK3 1 (.int .i64 (m.ep + 1))) 2 (.int .i64 m'.lg)) 3 (.slice no m'.nw.length nc)) 4 (.slice oo m'.od.length oc)) 5 (.int .i64 (a2 : Int))
  have hc9 : ∀ {W : World}, ChipAt W cb M2 → ∀ i v, ChipAt (W.setCell ⟨sb, i, none⟩ v) cb M2 := fun hc i v => hc.oth HP.out hsc i v
  have hch := hc9 (hc9 (hc9 (hc9 (hc9 hc3 1 (.int .i64 (m.ep + 1))) 2 (.int .i64 m'.lg)) 3 (.slice no m'.nw.length nc)) 4 (.slice oo m'.od.length oc)) 5 (.int .i64 (a2 : Int))
  have hbl := ((((HB4.out.set 1 (.int .i64 (m.ep + 1))).set 2 (.int .i64 m'.lg)).set 3 (.slice no m'.nw.length nc)).set 4 (.slice oo m'.od.length oc)).set 5 (.int .i64 (a2 : Int))
  refine ⟨rfl, ⟨hch, hh.glob.kp hK9 (fun hm => ?_), ?_, n2.kp hK9 (fun p e => ?_), o2.kp hK9 (fun p e => ?_), hh.tow.kp hK9 (fun b hb => ?_), hsc, hh.ts, n1.d, o1.d, ?_, fun b hb => ?_, fun p hp => ?_, fun hm => ?_, fun b hb => ?_⟩, hK9⟩
  · rcases List.mem_cons.1 hm with e | hm
    · exact hh.gS (e ▸ hh.cS.1)
    · simp at hm; exact hh.gS (hm ▸ hh.cS.2)
  · have e : storeC cb m' a2 (withA x no nc oo oc) = ((((((storeC cb m a x).setIfInBounds 1 (.int .i64 (m.ep + 1))).setIfInBounds 2 (.int .i64 m'.lg)).setIfInBounds 3 (.slice no m'.nw.length nc)).setIfInBounds 4 (.slice oo m'.od.length oc)).setIfInBounds 5 (.int .i64 (a2 : Int))) := by
      unfold storeC withA; rw [HM.out]; rfl
    rw [e]; exact hbl
  · have := n1.d p e; simp [this.1, this.2.1]
  · have := o1.d p e; simp [this.1, this.2.1]
  · have := hh.ts b hb; simp [this.1, this.2]
  · exact ⟨by simp [hh.cS.1], by simp [hh.cS.2]⟩
  · have := hh.tS b hb; simp [this]
  · rcases hp with hp | hp
    · exact List.mem_append_left _ (List.mem_append_right _ (mem_addrB.2 ⟨p, hp, rfl⟩))
    · exact List.mem_append_right _ (mem_addrB.2 ⟨p, hp, rfl⟩)
  · simp only [List.mem_append] at hm
    rcases hm with (hm | hm) | hm
    · exact hh.gS hm
    · obtain ⟨p, hp, e⟩ := mem_addrB.1 hm; exact n1.g p hp e
    · obtain ⟨p, hp, e⟩ := mem_addrB.1 hm; exact o1.g p hp e
  · have hsz := hK9.size
    simp only [List.mem_append] at hb
    rcases hb with (hb | hb) | hb
    · exact Nat.lt_of_lt_of_le (hh.lt b hb) hsz
    · obtain ⟨p, hp, e⟩ := mem_addrB.1 hb; rw [← e]; exact Nat.lt_of_lt_of_le (n1.lt p hp) hsz
    · obtain ⟨p, hp, e⟩ := mem_addrB.1 hb; rw [← e]; exact Nat.lt_of_lt_of_le (o1.lt p hp) hsz
end Go.Proofs.YtkibgflbidkalaaGreatDoor

/- A store in memory: tables are put together. -/
namespace Go.Proofs.YtkibgflbidkalaaGreatDoor
open Go.RowKit Go.WideShapes

theorem GlobT.lt {w : World} (h : GlobT w) : 1 < w.heap.size := by
  obtain ⟨f, hf⟩ := h
  have hc := (hf 0 (by omega)).1
  rcases Nat.lt_or_ge 1 w.heap.size with h' | h'
  · exact h'
  · simp [World.cell?, Array.getElem?_eq_none h'] at hc
theorem StoAt.chg {w w' : World} {S : List Nat} {sb cb : Nat} {M M' : CM} {m : Man} {a : Nat} {x : SMem} (h : StoAt w S sb cb M m a x) (hK : Kp w w' [cb]) (hc : ChipAt w' cb M') : StoAt w' S sb cb M' m a x :=
  ⟨hc, h.glob.kp hK (fun hm => by simp at hm; exact h.gS (hm ▸ h.cS.1)), hK.Blk h.blk (by simp [h.sc]), h.nw.kp hK (fun p e => by simp [(h.d1 p e).1]), h.od.kp hK (fun p e => by simp [(h.d2 p e).1]), h.tow.kp hK (fun b hb => by simp [(h.ts b hb).1]), h.sc, h.ts, h.d1, h.d2, h.cS, h.tS, h.aS, h.gS, fun b hb => Nat.lt_of_lt_of_le (h.lt b hb) hK.size⟩
theorem StoAt.apart {w w' : World} {S : List Nat} {sb cb : Nat} {M : CM} {m : Man} {a : Nat} {x : SMem} (h : StoAt w S sb cb M m a x) {no : Option Addr} (hn : ∀ p, no = some p → w.heap.size ≤ p.block ∧ p.block < w'.heap.size) : Apart w' sb cb x no := by
  have hc := h.lt _ h.cS.1
  have hs := h.lt _ h.cS.2
  refine ⟨fun p e => ?_, fun p e => (hn p e).2, fun p e => ?_⟩
  · have := (hn p e).1
    exact ⟨by omega, by omega, fun hm => by have := h.lt _ (h.tS _ hm); omega⟩
  · have := (hn p e).1
    have := h.glob.lt
    omega
set_option maxRecDepth 20000 in
set_option maxHeartbeats 2000000 in
theorem note_fell (w : World) (S : List Nat) (sb cb : Nat) (M : CM) (m : Man) (a : Nat) (x : SMem) (m' : Man) (e0 : Int) (no oo : Option Addr) (nc oc : Nat) (h : StoAt w S sb cb M m a x) (ha : a ≤ 1) (hub : M.left ≤ 9223372036854775807) (hwr : WrOk M) (hep : m'.ep = m.ep + 1) (hep2 : m'.ep ≤ 100000) (hep0 : 0 ≤ m.ep) (hf : manFault m' = 0)
    (hn : NumsAt w no m'.nw) (ho : NumsAt w oo m'.od) (hE : noteE M a (manTxt m') = 9) :
    Calls Tryz.prog 107 #[.pointer (some ⟨sb, 0, none⟩), .agg #[.int .i64 e0, .int .i64 m'.lg, .slice no m'.nw.length nc, .slice oo m'.od.length oc]] w fun e w' => e = .returned (.iface 39 (.int .i64 9)) ∧ ChipAt w' cb (noteM M a (manTxt m')) ∧ Kp w w' [cb] := by
  have k0 := h.blk.cell 0
  have k1 := h.blk.cell 1
  have k5 := h.blk.cell 5
  simp [storeC] at k0 k1 k5
  have hxb : Ext w (w.alloc (.cells #[.int .i64 m'.ep, .int .i64 m'.lg, .slice no m'.nw.length nc, .slice oo m'.od.length oc] 73)) := (Ext.refl w).alloc _
  have CN : Hid (∀ W, Ext w W → Calls Tryz.prog 49 #[.pointer (some ⟨cb, 0, none⟩), .int .i64 (a : Int), .agg #[.int .i64 m'.ep, .int .i64 m'.lg, .slice no m'.nw.length nc, .slice oo m'.od.length oc]] W fun e w' => e = .returned (.tuple #[.int .i64 0, .iface 39 (.int .i64 9)]) ∧ ChipAt w' cb (noteM M a (manTxt m')) ∧ W.grownBy w' (some cb)) := fun W hx => by
    refine (note_any cb a M m' no oo nc oc W (h.chip.ext hx) ha hub hwr (hn.ext hx) (ho.ext hx) hf).mono ?_
    rintro e w' ⟨h1, h2, h3⟩
    rcases h1 with ⟨h1, _⟩ | ⟨_, h1⟩
    · rw [hE] at h1; cases h1
    · rw [hE] at h1; exact ⟨h1, h2, h3⟩
  have HH : Hid (StoAt w S sb cb M m a x) := h
  have hslt : sb < w.heap.size := h.blk.lt
  have hclt : cb < w.heap.size := h.chip.lt
  have hsc := h.sc
  have hep3 : m.ep + 1 ≤ 100000 := by omega
  rw [hep] at CN hxb
  clear h hub hwr hf hn ho hE hep hep2
  generalize noteM M a (manTxt m') = M2 at *
  go_enter Tryz.func107, Tryz.ntmps107
  go_wp2
  have bx : Blk (w.alloc (.cells #[.int .i64 (m.ep + 1), .int .i64 m'.lg, .slice no m'.nw.length nc, .slice oo m'.od.length oc] 73)) w.heap.size #[.int .i64 (m.ep + 1), .int .i64 m'.lg, .slice no m'.nw.length nc, .slice oo m'.od.length oc] 73 := Blk.new _ _ _
  have z0 := hxb.cell k0
  have z5 := hxb.cell k5
  generalize w.alloc (.cells #[.int .i64 (m.ep + 1), .int .i64 m'.lg, .slice no m'.nw.length nc, .slice oo m'.od.length oc] 73) = wa at *
  have y0 := bx.cell 0
  have y1 := bx.cell 1
  have y2 := bx.cell 2
  have y3 := bx.cell 3
  simp at y0 y1 y2 y3
  have hwb : ¬ w.heap.size = cb := by omega
  have HB3 : Hid (∀ W W', Ext wa W → W.grownBy W' (some cb) → Blk W' sb (storeC cb m a x) 107 ∧ Blk W' w.heap.size #[.int .i64 (m.ep + 1), .int .i64 m'.lg, .slice no m'.nw.length nc, .slice oo m'.od.length oc] 73) := fun W W' hx hg => ⟨((HH.out.blk.ext hxb).ext hx).grown hg hsc, (bx.ext hx).grown hg hwb⟩
  have HKP : Hid (∀ W W', Ext wa W → W.grownBy W' (some cb) → Kp w W' [cb]) := fun W W' hx hg => (Kp.ofExt (hxb.trans hx) _).trans (Kp.grown hg)
  have HXB : Hid (Ext w wa) := hxb
  clear hxb k0 k1 k5 bx
  go_region_held3 (fun w' => (w'.cell? ⟨sb, 0, none⟩ = some (.pointer (some ⟨cb, 0, none⟩)) ∧ w'.cell? ⟨sb, 5, none⟩ = some (.int .i64 (a : Int))) ∧ (w'.cell? ⟨w.heap.size, 0, none⟩ = some (.int .i64 (m.ep + 1)) ∧ w'.cell? ⟨w.heap.size, 1, none⟩ = some (.int .i64 m'.lg) ∧ w'.cell? ⟨w.heap.size, 2, none⟩ = some (.slice no m'.nw.length nc) ∧ w'.cell? ⟨w.heap.size, 3, none⟩ = some (.slice oo m'.od.length oc)))
    (first | (go_keep; done) | exact ⟨⟨hB3.1.cell 0, hB3.1.cell 5⟩, hB3.2.cell 0, hB3.2.cell 1, hB3.2.cell 2, hB3.2.cell 3⟩)
    (first | (go_at_call 49; refine (CN.out _ (HXB.out.trans (by repeat (first | exact Ext.refl _ | refine Ext.drew ?_ | refine Ext.drewN ?_ _ | refine Ext.alloc ?_ _)))).mono ?_; rintro e w3 ⟨rfl, hc3, hg3⟩; have hB3 := HB3.out _ _ (by repeat (first | exact Ext.refl _ | refine Ext.drew ?_ | refine Ext.drewN ?_ _ | refine Ext.alloc ?_ _)) hg3; have hK3 := HKP.out _ _ (by repeat (first | exact Ext.refl _ | refine Ext.drew ?_ | refine Ext.drewN ?_ _ | refine Ext.alloc ?_ _)) hg3))
  clear HB3 HKP hg3 hB3 CN z0 z5 y0 y1 y2 y3
  go_wp2
  go_ret
  exact ⟨rfl, hc3, hK3⟩
end Go.Proofs.YtkibgflbidkalaaGreatDoor

/- A store in memory: Compact. -/
namespace Go.Proofs.YtkibgflbidkalaaGreatDoor
open Go.RowKit Go.WideShapes

inductive OpEnd (n : Nat) (w w' : World) (S : List Nat) (sb cb : Nat) (M : CM) (P : List Ent → Prop) (Pf : List Ent → Prop) (Q : CM → Man → List Ent → List Tb → Prop) (e : Ending) : Prop
  | ok (M' : CM) (m' : Man) (a' : Nat) (x' : SMem) (S' : List Nat) (N' O' : List Tb) (he : e = .returned .nilIface) (hs : StoAt w' S' sb cb M' m' a' x') (hi : Inv n M' m' a' (x'.ns.map Nd.e) N' O') (hr : P (rowsE (x'.ns.map Nd.e) N' O')) (hl : M.left < 0 → M'.left = M.left) (hq : ∀ k, M.left ≤ k → 0 ≤ k → M'.left ≤ k) (hw : M'.wk = M.wk) (hk : Kp w w' S) (hS : ∀ b ∈ S', b ∈ S ∨ w.heap.size ≤ b) (hQ : Q M' m' (x'.ns.map Nd.e) N')
  | fell (M' : CM) (he : e = .returned (.iface 39 (.int .i64 9))) (hl : ¬ M.left < 0) (hc : ChipAt w' cb M') (hw : M'.wk = M.wk) (hf : FellOk n M' Pf) (hk : Kp w w' S)
theorem OpEnd.le {n n' : Nat} {w w' : World} {S : List Nat} {sb cb : Nat} {M : CM} {P Pf : List Ent → Prop} {Q : CM → Man → List Ent → List Tb → Prop} {e : Ending} (h : OpEnd n w w' S sb cb M P Pf Q e) (hn : n ≤ n') : OpEnd n' w w' S sb cb M P Pf Q e := by
  cases h with
  | ok M' m' a' x' S' N' O' he hs hi hr hl hq hw hk hS hQ => exact .ok M' m' a' x' S' N' O' he hs (hi.keep (fun _ _ => rfl) (fun _ _ => rfl) hi.nst.up rfl hi.bw (fun b => Nat.le_trans (hi.wr b) hn) hn) hr hl hq hw hk hS hQ
  | fell M' he hl hc hw hf hk =>
    refine .fell M' he hl hc hw (fun how => ?_) hk
    obtain ⟨m, a, hand, N, O, h1, h2⟩ := hf how
    exact ⟨m, a, hand, N, O, h1.keep (fun _ _ => rfl) (fun _ _ => rfl) h1.nst.up rfl h1.bw (fun b => Nat.le_trans (h1.wr b) hn) hn, h2⟩
def CompQ (M : CM) (m : Man) (hand : List Ent) (M' : CM) (m' : Man) (hand' : List Ent) (N' : List Tb) : Prop := N' = [] ∧ hand' = hand ∧ m'.lg = m.lg ∧ (∀ g : Nat, m.lg = (g : Int) → M'.pg g = M.pg g) ∧ ∀ b, M.bd b = true → M'.bd b = true
set_option maxRecDepth 20000 in
set_option maxHeartbeats 8000000 in
theorem compact_some (n : Nat) (w : World) (S : List Nat) (sb cb : Nat) (M : CM) (m : Man) (a : Nat) (x : SMem) (N O : List Tb) (h : StoAt w S sb cb M m a x) (hI : Inv n M m a (x.ns.map Nd.e) N O) (hub : M.left ≤ 9223372036854775807) (hn : n ≤ 90000) (hN : N ≠ []) :
    Calls Tryz.prog 61 #[.pointer (some ⟨sb, 0, none⟩)] w fun e w' => OpEnd (n + 3) w w' S sb cb M (· = rowsE (x.ns.map Nd.e) N O) (· = rowsE (x.ns.map Nd.e) N O) (CompQ M m (x.ns.map Nd.e)) e := by
  have hup := hI.nst.up
  have hfew := hI.few
  have hfew' := hI.few'
  have hR := tabRows_ris N O
  have hval := tabRows_ok hI
  have hL : ((layS M (names m) (partsE 14 (tabRows N O))).e = 0 ∧ LaidOk M (names m) (partsE 14 (tabRows N O)) (layS M (names m) (partsE 14 (tabRows N O))).M (layS M (names m) (partsE 14 (tabRows N O))).L (layS M (names m) (partsE 14 (tabRows N O))).bs) ∨ ((layS M (names m) (partsE 14 (tabRows N O))).e = 9 ∧ ¬ M.left < 0 ∧ (layS M (names m) (partsE 14 (tabRows N O))).M.wk = M.wk ∧ FellOk (n + 3) (layS M (names m) (partsE 14 (tabRows N O))).M (· = rowsE (x.ns.map Nd.e) N O)) := lay_end (ps := partsE 14 (tabRows N O)) hI (Adv.refl _ _) hup (fun k hk => by have := good_few hI; omega) (partsE_ok hval hR) (by rw [partsE_len]; unfold partsN; have := hI.trows; omega)
  have k0 := h.blk.cell 0
  have k1 := h.blk.cell 1
  have k2 := h.blk.cell 2
  have k3 := h.blk.cell 3
  have k4 := h.blk.cell 4
  simp [storeC] at k0 k1 k2 k3 k4
  have HD : Hid (Calls Tryz.prog 39 #[.pointer (some ⟨cb, 0, none⟩)] w fun e w' => e = .returned (.bool false) ∧ w = w') := by
    have := down_any cb M w h.chip
    rw [show downB M = false by unfold downB; rw [hup]; rfl] at this
    exact this.mono fun _ _ h => ⟨h.1, h.2.symm⟩
  have CT : Hid (Calls Tryz.prog 103 #[.pointer (some ⟨sb, 0, none⟩)] w fun e w' => TabsE w w' e (N ++ O)) := tables_any w S sb cb M m a x N O h hup hI.nw hI.od hI.tn hI.told (by omega)
  have hnl : ¬ m.nw.length = 0 := by
    rw [hI.nw]; simp; exact hN
  have hnI : ((m.nw.length : Int) == 0) = false := by rw [beq_eq_false_iff_ne]; omega
  have hnm := (man_names hI.ok).1
  have CU : Hid (∀ W, Ext w W → Calls Tryz.prog 23 #[.agg #[.int .i64 m.ep, .int .i64 m.lg, .slice x.a1 m.nw.length x.c1, .slice x.a2 m.od.length x.c2]] W fun e w' => e = .returned (.pointer (some ⟨W.heap.size + 1, 0, none⟩)) ∧ Blk w' (W.heap.size + 1) (usedC (names m)) 99 ∧ Ext W w') := fun W hx => inUse_any m x.a1 x.a2 x.c1 x.c2 W (by rw [hI.nw, hI.od]; simp; omega) (fun y hy => by have := hnm y hy; omega) (h.nw.ext hx) (h.od.ext hx)
  have CA : Hid (∀ (W : World) (ls : List LE) ao c, ls.length ≤ c → CellsL W ao ls → EntsOf W ls → ls.map LE.es = tabsE (N ++ O) → Calls Tryz.prog 106 #[.slice ao ls.length c] W fun e w' => RetL W w' e (allE (tabsE N ++ tabsE O))) := fun W ls ao c h1 h2 h3 h4 => by
    have hll : ls.length ≤ 8 := by have := congrArg List.length h4; simp [tabsE] at this; omega
    have hF : Few ls := by
      have key : ∀ l ∈ ls, Ris l.es ∧ l.es.length ≤ 40 := fun l hl => by
        have hm : l.es ∈ tabsE (N ++ O) := by rw [← h4]; exact List.mem_map_of_mem hl
        obtain ⟨y, hy, e⟩ := List.mem_map.1 hm
        rw [← e]
        have ht : TabAt M y.b y.es := by
          rcases List.mem_append.1 hy with h' | h'
          · exact hI.tn y h'
          · exact hI.told y h'
        exact ⟨tabF_ris ht.ok, by have := (tabF_zero ht.ok).2.1; omega⟩
      exact ⟨fun l hl => (key l hl).1, fun l hl => (key l hl).2⟩
    have hLA : ListsAt W ao ls := fun hne => by
      obtain ⟨b, off, e, hc⟩ := h2 hne
      exact ⟨b, off, e, fun i l hl => ⟨hc i l hl, (h3 l (List.mem_of_getElem? hl)).1, (h3 l (List.mem_of_getElem? hl)).2.1⟩⟩
    have := all_any 20 ao c ls W (by omega) (by omega) h1 hF hLA
    rw [show alls ls = allE (tabsE N ++ tabsE O) by unfold alls; rw [h4]; simp [tabsE]] at this
    exact this
  have HAL : Hid ((allE (tabsE N ++ tabsE O)).length ≤ 1000) := by
    have key : ∀ ls : List (List Ent), (∀ l ∈ ls, l.length ≤ 14) → (allE ls).length ≤ 14 * ls.length := by
      intro ls
      induction ls with
      | nil => intro _; simp [allE]
      | cons l r ih =>
        intro hl
        have h1 := ih (fun y hy => hl y (List.mem_cons_of_mem _ hy))
        have h2 := hl l (by simp)
        have h3 := puts_len (allE r) l
        show (putsE (allE r) l).length ≤ _
        simp only [List.length_cons]; omega
    have := key (tabsE N ++ tabsE O) (fun l hl => by
      rcases List.mem_append.1 hl with hl | hl
      · obtain ⟨y, hy, rfl⟩ := List.mem_map.1 hl
        exact (tabF_zero (hI.tn y hy).ok).2.1
      · obtain ⟨y, hy, rfl⟩ := List.mem_map.1 hl
        exact (tabF_zero (hI.told y hy).ok).2.1)
    rw [Hid]
    simp [tabsE] at this; simp [tabsE]; omega
  have CV : Hid (∀ (W : World) ao c, EntsAt W ao (allE (tabsE N ++ tabsE O)) → Calls Tryz.prog 105 #[.slice ao (allE (tabsE N ++ tabsE O)).length c] W fun e w' => ∃ v, e = .returned v ∧ Lst W w' v (tabRows N O)) := fun W ao c he => live_any ao c _ W HAL.out he
  have CL : Hid (∀ (W : World) ub ao c, ChipAt W cb M → Blk W ub (usedC (names m)) 99 → ¬ ub = cb → (tabRows N O).length ≤ c → EntsAt W ao (tabRows N O) → (∀ a, ao = some a → ¬ a.block = cb ∧ ¬ a.block = ub) → Calls Tryz.prog 104 #[.pointer (some ⟨cb, 0, none⟩), .pointer (some ⟨ub, 0, none⟩), .slice ao (tabRows N O).length c] W fun e w' => LayD (layS M (names m) (partsE 14 (tabRows N O))) W w' cb ub e) := fun W ub ao c h1 h2 h3 h4 h5 h6 =>
    lay_all cb ub ao c (tabRows N O) M (names m) W h1 h2 h3 hub hup hI.bw (fun b => by have := hI.wr b; omega) (by have := hI.trows; omega) h4 h5 h6 (partsE_ok hval hR)
  have HKK : Hid (w.cell? ⟨sb, 0, none⟩ = some (.pointer (some ⟨cb, 0, none⟩)) ∧ w.cell? ⟨sb, 1, none⟩ = some (.int .i64 m.ep) ∧ w.cell? ⟨sb, 2, none⟩ = some (.int .i64 m.lg) ∧ w.cell? ⟨sb, 3, none⟩ = some (.slice x.a1 m.nw.length x.c1) ∧ w.cell? ⟨sb, 4, none⟩ = some (.slice x.a2 m.od.length x.c2)) := ⟨k0, k1, k2, k3, k4⟩
  have HH : Hid (StoAt w S sb cb M m a x) := h
  have HI : Hid (Inv n M m a (x.ns.map Nd.e) N O) := hI
  have HCE : Hid (∀ W, Ext w W → W.cell? ⟨sb, 0, none⟩ = some (.pointer (some ⟨cb, 0, none⟩)) ∧ W.cell? ⟨sb, 1, none⟩ = some (.int .i64 m.ep) ∧ W.cell? ⟨sb, 2, none⟩ = some (.int .i64 m.lg) ∧ W.cell? ⟨sb, 3, none⟩ = some (.slice x.a1 m.nw.length x.c1) ∧ W.cell? ⟨sb, 4, none⟩ = some (.slice x.a2 m.od.length x.c2)) := fun W hx => ⟨hx.cell k0, hx.cell k1, hx.cell k2, hx.cell k3, hx.cell k4⟩
  have hclt := h.chip.lt
  have hslt := h.blk.lt
  have hsc := h.sc
  have HCK : Hid (∀ W, Kp w W [cb] → W.cell? ⟨sb, 0, none⟩ = some (.pointer (some ⟨cb, 0, none⟩)) ∧ W.cell? ⟨sb, 1, none⟩ = some (.int .i64 m.ep) ∧ W.cell? ⟨sb, 2, none⟩ = some (.int .i64 m.lg) ∧ W.cell? ⟨sb, 3, none⟩ = some (.slice x.a1 m.nw.length x.c1) ∧ W.cell? ⟨sb, 4, none⟩ = some (.slice x.a2 m.od.length x.c2)) := fun W hK => ⟨hK.cell (by simp [hsc]) k0, hK.cell (by simp [hsc]) k1, hK.cell (by simp [hsc]) k2, hK.cell (by simp [hsc]) k3, hK.cell (by simp [hsc]) k4⟩
  have HNE : Hid (∀ k : Nat, w.heap.size ≤ k → ¬ k + 1 = cb) := fun k hk => by omega
  have HNE2 : Hid (∀ k k3 pb : Nat, ∀ {k2 : Nat}, w.heap.size ≤ k → k + 1 < k2 → k2 ≤ k3 → k3 ≤ pb → ¬ pb = cb ∧ ¬ pb = k + 1) := fun k k3 pb k2 h1 h2 h3 h4 => by omega
  have HK5 : Hid (∀ w4 w5 k, Ext w w4 → w.heap.size ≤ k → Kp w4 w5 [cb, k + 1] → Kp w w5 [cb]) := fun w4 w5 k hx hk hK => (Kp.ofExt hx [cb]).new hK (fun y hy => by simp at hy; rcases hy with rfl | rfl; simp; right; omega)
  rcases hL with ⟨he0, hLO⟩ | ⟨he9, hl9, hw9, hf9⟩
  · obtain ⟨hNx, hrow⟩ := compact_next hI (by omega) hLO
    have hNE := note_end hI hLO.adv hLO.up hNx rfl hrow
    have hub1 := hLO.adv.leq _ hub (by decide)
    have hwr1 : WrOk (layS M (names m) (partsE 14 (tabRows N O))).M := fun b _ => by have h1 := (hLO.adv.wr b).1; have h2 := hI.wr b; omega
    have hep0 := (manFault_ep hI.ok).1
    have hepn := hI.ep
    have HLR : Hid (∀ W W' ub e, LayD (layS M (names m) (partsE 14 (tabRows N O))) W W' cb ub e → ∃ ao c, e = .returned (.tuple #[.slice ao (layS M (names m) (partsE 14 (tabRows N O))).bs.length c, .nilIface]) ∧ NumsAt W' ao (intsN (layS M (names m) (partsE 14 (tabRows N O))).bs) ∧ (∀ a, ao = some a → W.heap.size ≤ a.block ∧ a.block < W'.heap.size) ∧ ChipAt W' cb (layS M (names m) (partsE 14 (tabRows N O))).M ∧ Kp W W' [cb, ub]) := fun W W' ub e hd => by
      obtain ⟨⟨ao, c, h1, h2, h3⟩, h4, _, h6⟩ := hd
      rw [he0] at h1
      exact ⟨ao, c, h1, h2, h3, h4, h6⟩
    have HLG : Hid (∀ g : Nat, m.lg = (g : Int) → (noteM (layS M (names m) (partsE 14 (tabRows N O))).M a (manTxt (compM m (layS M (names m) (partsE 14 (tabRows N O))).bs))).pg g = M.pg g) := fun g hg => by
      have h1 := hLO.adv.pg g (by rw [← hg]; simp [names])
      have hr := (man_names hI.ok).1 m.lg (by simp)
      rw [(note_far (s := manTxt (compM m (layS M (names m) (partsE 14 (tabRows N O))).bs)) (hI.adv hLO.adv hLO.up).nst (by have := (manTxt_le hNx.ok).1; omega)).pg g (by omega), h1]
    have HBD : Hid (∀ b, M.bd b = true → (noteM (layS M (names m) (partsE 14 (tabRows N O))).M a (manTxt (compM m (layS M (names m) (partsE 14 (tabRows N O))).bs))).bd b = true) := fun b hb => by
      rw [(note_far (s := manTxt (compM m (layS M (names m) (partsE 14 (tabRows N O))).bs)) (hI.adv hLO.adv hLO.up).nst (by have := (manTxt_le hNx.ok).1; omega)).bd]
      exact hLO.adv.bd b hb
    have hln : (compM m (layS M (names m) (partsE 14 (tabRows N O))).bs).od.length = (layS M (names m) (partsE 14 (tabRows N O))).bs.length := by simp [compM, intsN]
    rcases hNE with ⟨ne, ni, np, nk, nl, nq⟩ | ⟨ne, nl, nk, nf⟩
    · have CN : Hid (∀ W ao c, Kp w W [cb] → ChipAt W cb (layS M (names m) (partsE 14 (tabRows N O))).M → NumsAt W ao (intsN (layS M (names m) (partsE 14 (tabRows N O))).bs) → (∀ p, ao = some p → w.heap.size ≤ p.block ∧ p.block < W.heap.size) → Calls Tryz.prog 107 #[.pointer (some ⟨sb, 0, none⟩), .agg #[.int .i64 0, .int .i64 m.lg, .slice none 0 0, .slice ao (layS M (names m) (partsE 14 (tabRows N O))).bs.length c]] W fun e w' => e = .returned .nilIface ∧ StoAt w' (S ++ addrB none ++ addrB ao) sb cb (noteM (layS M (names m) (partsE 14 (tabRows N O))).M a (manTxt (compM m (layS M (names m) (partsE 14 (tabRows N O))).bs))) (compM m (layS M (names m) (partsE 14 (tabRows N O))).bs) (noteAt (layS M (names m) (partsE 14 (tabRows N O))).M a) (withA x none 0 ao c) ∧ Kp W w' [cb, sb]) := fun W ao c h1 h2 h3 h4 => by
        have := note_sto W S sb cb (layS M (names m) (partsE 14 (tabRows N O))).M m a x (compM m (layS M (names m) (partsE 14 (tabRows N O))).bs) 0 none ao 0 c (HH.out.chg h1 h2) hI.nst.le hub1 hwr1 rfl (by show m.ep + 1 ≤ 100000; omega) (by omega) hNx.ok (fun h => absurd rfl h) h3 ⟨fun p e => (by cases e), fun p e => (by cases e), fun p e => (by cases e)⟩ (HH.out.apart h4) ne np
        rw [hln] at this
        exact this
      have HR : Hid (rowsE (x.ns.map Nd.e) [] (zipTb (layS M (names m) (partsE 14 (tabRows N O))).bs (partsE 14 (tabRows N O))) = rowsE (x.ns.map Nd.e) N O) := hrow
      have NI : Hid (Inv (n + 2) (noteM (layS M (names m) (partsE 14 (tabRows N O))).M a (manTxt (compM m (layS M (names m) (partsE 14 (tabRows N O))).bs))) (compM m (layS M (names m) (partsE 14 (tabRows N O))).bs) (noteAt (layS M (names m) (partsE 14 (tabRows N O))).M a) (x.ns.map Nd.e) [] (zipTb (layS M (names m) (partsE 14 (tabRows N O))).bs (partsE 14 (tabRows N O)))) := ni
      have NL : Hid ((M.left < 0 → (noteM (layS M (names m) (partsE 14 (tabRows N O))).M a (manTxt (compM m (layS M (names m) (partsE 14 (tabRows N O))).bs))).left = M.left) ∧ (∀ k, M.left ≤ k → 0 ≤ k → (noteM (layS M (names m) (partsE 14 (tabRows N O))).M a (manTxt (compM m (layS M (names m) (partsE 14 (tabRows N O))).bs))).left ≤ k) ∧ (noteM (layS M (names m) (partsE 14 (tabRows N O))).M a (manTxt (compM m (layS M (names m) (partsE 14 (tabRows N O))).bs))).wk = M.wk) := ⟨nl, nq, nk⟩
      clear hNx hrow hln ne np nl nq nk ni hub1 hwr1 hLO he0 hnm hval hR hup hfew hfew' hN h hI hnl hub hn hep0 hepn HI
      generalize tabRows N O = es at *
      generalize allE (tabsE N ++ tabsE O) = al at *
      go_enter Tryz.func61, Tryz.ntmps61
      go_wp2_with (first
        | (go_at_call 39; refine HD.out.mono ?_; rintro e w0 ⟨rfl, rfl⟩)
        | (go_at_call 103; refine CT.out.mono ?_; rintro e w1 ⟨ao1, c1, ls, rfl, hlc, hcl, heo, hls, hx1⟩))
      obtain ⟨r0, r1, r2, r3, r4⟩ := HKK.out
      have s0 := hx1.cell r0
      have s1 := hx1.cell r1
      have s2 := hx1.cell r2
      have s3 := hx1.cell r3
      have s4 := hx1.cell r4
      clear r0 r1 r2 r3 r4 k0 k1 k2 k3 k4
      go_region_held3 (fun W => W.cell? ⟨sb, 0, none⟩ = some (.pointer (some ⟨cb, 0, none⟩)) ∧ W.cell? ⟨sb, 1, none⟩ = some (.int .i64 m.ep) ∧ W.cell? ⟨sb, 2, none⟩ = some (.int .i64 m.lg) ∧ W.cell? ⟨sb, 3, none⟩ = some (.slice x.a1 m.nw.length x.c1) ∧ W.cell? ⟨sb, 4, none⟩ = some (.slice x.a2 m.od.length x.c2))
        (first | (go_keep; done) | exact HCK.out _ hk5 | exact HCE.out _ hw4 | exact HCE.out _ hw3 | exact HCE.out _ hw2)
        (first
          | (go_at_call 23; refine (CU.out _ (by repeat (first | exact hx1 | exact hw2 | exact hw3 | exact hw4 | refine Ext.drew ?_ | refine Ext.drewN ?_ _ | refine Ext.alloc ?_ _))).mono ?_; rintro e w2 ⟨rfl, hu2, hx2⟩; have hw2 : Ext w w2 := Ext.trans (by repeat (first | exact hx1 | exact hw2 | exact hw3 | exact hw4 | refine Ext.drew ?_ | refine Ext.drewN ?_ _ | refine Ext.alloc ?_ _)) hx2; have hw12 : Ext w1 w2 := Ext.trans (by repeat (first | exact Ext.refl _ | refine Ext.drew ?_ | refine Ext.drewN ?_ _)) hx2; have hu2lt := hu2.lt)
          | (go_at_call 106; refine (CA.out _ ls ao1 c1 hlc (hcl.ext hw12) (heo.ext hw12) hls).mono ?_; rintro e w3 ⟨ao3, c3, rfl, hc3, he3, hx3⟩; have hw3 : Ext w w3 := hw2.trans hx3)
          | (go_at_call 105; refine (CV.out _ ao3 c3 he3).mono ?_; rintro e w4 ⟨v4, rfl, hL4⟩; have hR4 := hL4.retE (Ext.refl w3); obtain ⟨ao4, c4, hv4, hc4, he4, hb4, hx4⟩ := hR4; subst hv4; have hw4 : Ext w w4 := hw3.trans hx4; have hu4 := (hu2.ext hx3).ext hx4)
          | (go_at_call 104; refine (CL.out _ _ ao4 c4 (HH.out.chip.ext hw4) hu4 (HNE.out _ (Ext.size (by repeat (first | exact hx1 | refine Ext.drew ?_ | refine Ext.drewN ?_ _ | refine Ext.alloc ?_ _)))) hc4 he4 (fun p e => HNE2.out _ _ _ (Ext.size (by repeat (first | exact hx1 | refine Ext.drew ?_ | refine Ext.drewN ?_ _ | refine Ext.alloc ?_ _))) hu2lt hx3.size (hb4 p e).1)).mono ?_; rintro e w5 hd5; obtain ⟨ao5, c5, rfl, hn5, hb5', hch5, hkp5⟩ := HLR.out _ _ _ _ hd5; have hk5 := HK5.out _ _ _ hw4 (Ext.size (by repeat (first | exact hx1 | refine Ext.drew ?_ | refine Ext.drewN ?_ _ | refine Ext.alloc ?_ _))) hkp5; have hb5 : ∀ p, ao5 = some p → w.heap.size ≤ p.block ∧ p.block < w5.heap.size := fun p e => ⟨Nat.le_trans hw4.size (hb5' p e).1, (hb5' p e).2⟩))
      have hk5' := hk5
      have s5 := HCK.out _ hk5
      obtain ⟨t0, t1, t2, t3, t4⟩ := s5
      go_wp2_with (go_at_call 107; refine (CN.out _ ao5 c5 hk5 hch5 hn5 hb5).mono ?_; rintro e w6 ⟨rfl, hs6, hk6⟩)
      go_ret
      refine .ok _ _ _ _ _ [] _ rfl hs6 (NI.out.keep (fun _ _ => rfl) (fun _ _ => rfl) NI.out.nst.up rfl NI.out.bw (fun b => Nat.le_trans (NI.out.wr b) (by omega)) (by omega)) HR.out NL.out.1 NL.out.2.1 NL.out.2.2 ?_ ?_ ⟨rfl, rfl, rfl, HLG.out, HBD.out⟩
      · have hh := HH.out
        exact (hk5.mono (by simp [hh.cS.1])).trans (hk6.mono (by simp [hh.cS.1, hh.cS.2]))
      · intro b hb
        simp only [List.mem_append] at hb
        rcases hb with (hb | hb) | hb
        · exact .inl hb
        · simp [addrB] at hb
        · obtain ⟨p, hp, e⟩ := mem_addrB.1 hb
          exact .inr (by rw [← e]; exact (hb5 p hp).1)
    · have CN : Hid (∀ W ao c, Kp w W [cb] → ChipAt W cb (layS M (names m) (partsE 14 (tabRows N O))).M → NumsAt W ao (intsN (layS M (names m) (partsE 14 (tabRows N O))).bs) → Calls Tryz.prog 107 #[.pointer (some ⟨sb, 0, none⟩), .agg #[.int .i64 0, .int .i64 m.lg, .slice none 0 0, .slice ao (layS M (names m) (partsE 14 (tabRows N O))).bs.length c]] W fun e w' => e = .returned (.iface 39 (.int .i64 9)) ∧ ChipAt w' cb (noteM (layS M (names m) (partsE 14 (tabRows N O))).M a (manTxt (compM m (layS M (names m) (partsE 14 (tabRows N O))).bs))) ∧ Kp W w' [cb]) := fun W ao c h1 h2 h3 => by
        have := note_fell W S sb cb (layS M (names m) (partsE 14 (tabRows N O))).M m a x (compM m (layS M (names m) (partsE 14 (tabRows N O))).bs) 0 none ao 0 c (HH.out.chg h1 h2) hI.nst.le hub1 hwr1 rfl (by show m.ep + 1 ≤ 100000; omega) (by omega) hNx.ok (fun h => absurd rfl h) h3 ne
        rw [hln] at this
        exact this
      have NF : Hid (¬ M.left < 0 ∧ (noteM (layS M (names m) (partsE 14 (tabRows N O))).M a (manTxt (compM m (layS M (names m) (partsE 14 (tabRows N O))).bs))).wk = M.wk ∧ FellOk (n + 3) (noteM (layS M (names m) (partsE 14 (tabRows N O))).M a (manTxt (compM m (layS M (names m) (partsE 14 (tabRows N O))).bs))) (· = rowsE (x.ns.map Nd.e) N O)) := ⟨nl, nk, nf⟩
      clear hNx hrow hln ne nl nk nf hub1 hwr1 hLO he0 hnm hval hR hup hfew hfew' hN h hI hnl hub hn hep0 hepn HI HLG
      generalize tabRows N O = es at *
      generalize allE (tabsE N ++ tabsE O) = al at *
      go_enter Tryz.func61, Tryz.ntmps61
      go_wp2_with (first
        | (go_at_call 39; refine HD.out.mono ?_; rintro e w0 ⟨rfl, rfl⟩)
        | (go_at_call 103; refine CT.out.mono ?_; rintro e w1 ⟨ao1, c1, ls, rfl, hlc, hcl, heo, hls, hx1⟩))
      obtain ⟨r0, r1, r2, r3, r4⟩ := HKK.out
      have s0 := hx1.cell r0
      have s1 := hx1.cell r1
      have s2 := hx1.cell r2
      have s3 := hx1.cell r3
      have s4 := hx1.cell r4
      clear r0 r1 r2 r3 r4 k0 k1 k2 k3 k4
      go_region_held3 (fun W => W.cell? ⟨sb, 0, none⟩ = some (.pointer (some ⟨cb, 0, none⟩)) ∧ W.cell? ⟨sb, 1, none⟩ = some (.int .i64 m.ep) ∧ W.cell? ⟨sb, 2, none⟩ = some (.int .i64 m.lg) ∧ W.cell? ⟨sb, 3, none⟩ = some (.slice x.a1 m.nw.length x.c1) ∧ W.cell? ⟨sb, 4, none⟩ = some (.slice x.a2 m.od.length x.c2))
        (first | (go_keep; done) | exact HCK.out _ hk5 | exact HCE.out _ hw4 | exact HCE.out _ hw3 | exact HCE.out _ hw2)
        (first
          | (go_at_call 23; refine (CU.out _ (by repeat (first | exact hx1 | exact hw2 | exact hw3 | exact hw4 | refine Ext.drew ?_ | refine Ext.drewN ?_ _ | refine Ext.alloc ?_ _))).mono ?_; rintro e w2 ⟨rfl, hu2, hx2⟩; have hw2 : Ext w w2 := Ext.trans (by repeat (first | exact hx1 | exact hw2 | exact hw3 | exact hw4 | refine Ext.drew ?_ | refine Ext.drewN ?_ _ | refine Ext.alloc ?_ _)) hx2; have hw12 : Ext w1 w2 := Ext.trans (by repeat (first | exact Ext.refl _ | refine Ext.drew ?_ | refine Ext.drewN ?_ _)) hx2; have hu2lt := hu2.lt)
          | (go_at_call 106; refine (CA.out _ ls ao1 c1 hlc (hcl.ext hw12) (heo.ext hw12) hls).mono ?_; rintro e w3 ⟨ao3, c3, rfl, hc3, he3, hx3⟩; have hw3 : Ext w w3 := hw2.trans hx3)
          | (go_at_call 105; refine (CV.out _ ao3 c3 he3).mono ?_; rintro e w4 ⟨v4, rfl, hL4⟩; have hR4 := hL4.retE (Ext.refl w3); obtain ⟨ao4, c4, hv4, hc4, he4, hb4, hx4⟩ := hR4; subst hv4; have hw4 : Ext w w4 := hw3.trans hx4; have hu4 := (hu2.ext hx3).ext hx4)
          | (go_at_call 104; refine (CL.out _ _ ao4 c4 (HH.out.chip.ext hw4) hu4 (HNE.out _ (Ext.size (by repeat (first | exact hx1 | refine Ext.drew ?_ | refine Ext.drewN ?_ _ | refine Ext.alloc ?_ _)))) hc4 he4 (fun p e => HNE2.out _ _ _ (Ext.size (by repeat (first | exact hx1 | refine Ext.drew ?_ | refine Ext.drewN ?_ _ | refine Ext.alloc ?_ _))) hu2lt hx3.size (hb4 p e).1)).mono ?_; rintro e w5 hd5; obtain ⟨ao5, c5, rfl, hn5, hb5', hch5, hkp5⟩ := HLR.out _ _ _ _ hd5; have hk5 := HK5.out _ _ _ hw4 (Ext.size (by repeat (first | exact hx1 | refine Ext.drew ?_ | refine Ext.drewN ?_ _ | refine Ext.alloc ?_ _))) hkp5; have hb5 : ∀ p, ao5 = some p → w.heap.size ≤ p.block ∧ p.block < w5.heap.size := fun p e => ⟨Nat.le_trans hw4.size (hb5' p e).1, (hb5' p e).2⟩))
      have s5 := HCK.out _ hk5
      obtain ⟨t0, t1, t2, t3, t4⟩ := s5
      go_wp2_with (go_at_call 107; refine (CN.out _ ao5 c5 hk5 hch5 hn5).mono ?_; rintro e w6 ⟨rfl, hc6, hk6⟩)
      go_ret
      have hh := HH.out
      exact .fell _ rfl (by have := NF.out.1; omega) hc6 NF.out.2.1 NF.out.2.2 ((hk5.trans hk6).mono (by simp [hh.cS.1]))
  · have HLR : Hid (∀ W W' ub e, LayD (layS M (names m) (partsE 14 (tabRows N O))) W W' cb ub e → ∃ ao c, e = .returned (.tuple #[.slice ao (layS M (names m) (partsE 14 (tabRows N O))).bs.length c, .iface 39 (.int .i64 9)]) ∧ ChipAt W' cb (layS M (names m) (partsE 14 (tabRows N O))).M ∧ Kp W W' [cb, ub]) := fun W W' ub e hd => by
      obtain ⟨⟨ao, c, h1, _, _⟩, h4, _, h6⟩ := hd
      rw [he9] at h1
      exact ⟨ao, c, h1, h4, h6⟩
    have NF : Hid (¬ M.left < 0 ∧ (layS M (names m) (partsE 14 (tabRows N O))).M.wk = M.wk ∧ FellOk (n + 3) (layS M (names m) (partsE 14 (tabRows N O))).M (· = rowsE (x.ns.map Nd.e) N O)) := ⟨hl9, hw9, hf9⟩
    clear hl9 hw9 hf9 he9 hnm hval hR hup hfew hfew' hN h hI hnl hub hn HI
    generalize tabRows N O = es at *
    generalize allE (tabsE N ++ tabsE O) = al at *
    generalize (layS M (names m) (partsE 14 es)).bs.length = bl at *
    go_enter Tryz.func61, Tryz.ntmps61
    go_wp2_with (first
      | (go_at_call 39; refine HD.out.mono ?_; rintro e w0 ⟨rfl, rfl⟩)
      | (go_at_call 103; refine CT.out.mono ?_; rintro e w1 ⟨ao1, c1, ls, rfl, hlc, hcl, heo, hls, hx1⟩))
    obtain ⟨r0, r1, r2, r3, r4⟩ := HKK.out
    have s0 := hx1.cell r0
    have s1 := hx1.cell r1
    have s2 := hx1.cell r2
    have s3 := hx1.cell r3
    have s4 := hx1.cell r4
    clear r0 r1 r2 r3 r4 k0 k1 k2 k3 k4
    go_region_held3 (fun W => W.cell? ⟨sb, 0, none⟩ = some (.pointer (some ⟨cb, 0, none⟩)) ∧ W.cell? ⟨sb, 1, none⟩ = some (.int .i64 m.ep) ∧ W.cell? ⟨sb, 2, none⟩ = some (.int .i64 m.lg) ∧ W.cell? ⟨sb, 3, none⟩ = some (.slice x.a1 m.nw.length x.c1) ∧ W.cell? ⟨sb, 4, none⟩ = some (.slice x.a2 m.od.length x.c2))
      (first | (go_keep; done) | exact HCK.out _ hk5 | exact HCE.out _ hw4 | exact HCE.out _ hw3 | exact HCE.out _ hw2)
      (first
        | (go_at_call 23; refine (CU.out _ (by repeat (first | exact hx1 | exact hw2 | exact hw3 | exact hw4 | refine Ext.drew ?_ | refine Ext.drewN ?_ _ | refine Ext.alloc ?_ _))).mono ?_; rintro e w2 ⟨rfl, hu2, hx2⟩; have hw2 : Ext w w2 := Ext.trans (by repeat (first | exact hx1 | exact hw2 | exact hw3 | exact hw4 | refine Ext.drew ?_ | refine Ext.drewN ?_ _ | refine Ext.alloc ?_ _)) hx2; have hw12 : Ext w1 w2 := Ext.trans (by repeat (first | exact Ext.refl _ | refine Ext.drew ?_ | refine Ext.drewN ?_ _)) hx2; have hu2lt := hu2.lt)
        | (go_at_call 106; refine (CA.out _ ls ao1 c1 hlc (hcl.ext hw12) (heo.ext hw12) hls).mono ?_; rintro e w3 ⟨ao3, c3, rfl, hc3, he3, hx3⟩; have hw3 : Ext w w3 := hw2.trans hx3)
        | (go_at_call 105; refine (CV.out _ ao3 c3 he3).mono ?_; rintro e w4 ⟨v4, rfl, hL4⟩; have hR4 := hL4.retE (Ext.refl w3); obtain ⟨ao4, c4, hv4, hc4, he4, hb4, hx4⟩ := hR4; subst hv4; have hw4 : Ext w w4 := hw3.trans hx4; have hu4 := (hu2.ext hx3).ext hx4)
        | (go_at_call 104; refine (CL.out _ _ ao4 c4 (HH.out.chip.ext hw4) hu4 (HNE.out _ (Ext.size (by repeat (first | exact hx1 | refine Ext.drew ?_ | refine Ext.drewN ?_ _ | refine Ext.alloc ?_ _)))) hc4 he4 (fun p e => HNE2.out _ _ _ (Ext.size (by repeat (first | exact hx1 | refine Ext.drew ?_ | refine Ext.drewN ?_ _ | refine Ext.alloc ?_ _))) hu2lt hx3.size (hb4 p e).1)).mono ?_; rintro e w5 hd5; obtain ⟨ao5, c5, rfl, hch5, hkp5⟩ := HLR.out _ _ _ _ hd5; have hk5 := HK5.out _ _ _ hw4 (Ext.size (by repeat (first | exact hx1 | refine Ext.drew ?_ | refine Ext.drewN ?_ _ | refine Ext.alloc ?_ _))) hkp5))
    go_wp2
    go_ret
    have hh := HH.out
    exact .fell _ rfl (by have := NF.out.1; omega) hch5 NF.out.2.1 NF.out.2.2 (hk5.mono (by simp [hh.cS.1]))
end Go.Proofs.YtkibgflbidkalaaGreatDoor

/- A store: a log is claimed; Compact where there is nothing to do; a new hand. -/
namespace Go.Proofs.YtkibgflbidkalaaGreatDoor
open Go.RowKit Go.WideShapes

theorem claimE_end {n : Nat} {M : CM} {m : Man} {a : Nat} {hand : List Ent} {N O : List Tb} (h : Inv n M m a hand N O) {L : List Int} {M0 : CM} (hA : Adv (m.lg :: (m.nw ++ m.od)) M L M0) (hp : M0.pend = none) (hg : 1 ≤ goodN M.wk L) :
    ((claimS rdErase M0 L).e = 0 ∧ ClaimOk (fun M b => M.pg b = []) M0 L (claimS rdErase M0 L).M (claimS rdErase M0 L).L (claimS rdErase M0 L).b 0) ∨ ((claimS rdErase M0 L).e = 9 ∧ ¬ M.left < 0 ∧ (claimS rdErase M0 L).M.wk = M.wk ∧ FellOk (n + 3) (claimS rdErase M0 L).M (· = rowsE hand N O)) := by
  have hbw0 : ∀ b, M0.bd b = true → M0.wk b = true := fun b hb => by
    rw [hA.wk]
    rcases hA.bw b hb with h' | h'
    · exact h.bw b h'
    · exact h'
  have hC := (claimS_is rdErase M0 L).ok rdErase_ok hp hbw0
  rcases hC.end_ with ⟨h0, _⟩ | ⟨h8, hg8, _⟩ | ⟨h9, hl, q, hq1, hq2, hq3, hq4⟩
  · rw [h0] at hC
    exact .inl ⟨h0, hC⟩
  · rw [hA.wk] at hg8; omega
  · have hA3 := hA.trans hC.adv
    refine .inr ⟨h9, fun hn => hl (by rw [hA.left hn]; exact hn), hA3.wk, fun how => ⟨m, a, hand, N, O, ?_, rfl, restart_left _ _, (restart_far hq1 how).2.1⟩⟩
    have := h.fall hA3 hq1 hq2 (fun hm => hq4 (hA.mono _ hm)) how
    exact this.keep (fun _ _ => rfl) (fun _ _ => rfl) this.nst.up rfl this.bw (fun b => by have := this.wr b; omega) (by omega)
set_option maxRecDepth 20000 in
set_option maxHeartbeats 1000000 in
theorem compact_none (n : Nat) (w : World) (S : List Nat) (sb cb : Nat) (M : CM) (m : Man) (a : Nat) (x : SMem) (O : List Tb) (h : StoAt w S sb cb M m a x) (hI : Inv n M m a (x.ns.map Nd.e) [] O) :
    Calls Tryz.prog 61 #[.pointer (some ⟨sb, 0, none⟩)] w fun e w' => OpEnd (n + 3) w w' S sb cb M (· = rowsE (x.ns.map Nd.e) [] O) (· = rowsE (x.ns.map Nd.e) [] O) (CompQ M m (x.ns.map Nd.e)) e := by
  have hup := hI.nst.up
  have k0 := h.blk.cell 0
  have k3 := h.blk.cell 3
  simp [storeC] at k0 k3
  have HD : Hid (Calls Tryz.prog 39 #[.pointer (some ⟨cb, 0, none⟩)] w fun e w' => e = .returned (.bool false) ∧ w = w') := by
    have := down_any cb M w h.chip
    rw [show downB M = false by unfold downB; rw [hup]; rfl] at this
    exact this.mono fun _ _ h => ⟨h.1, h.2.symm⟩
  have hnl : m.nw.length = 0 := by rw [hI.nw]; rfl
  rw [hnl] at k3
  have HR : Hid (OpEnd (n + 3) w w S sb cb M (· = rowsE (x.ns.map Nd.e) [] O) (· = rowsE (x.ns.map Nd.e) [] O) (CompQ M m (x.ns.map Nd.e)) (.returned .nilIface)) :=
    .ok M m a x S [] O rfl h (hI.keep (fun _ _ => rfl) (fun _ _ => rfl) hup rfl hI.bw (fun b => Nat.le_trans (hI.wr b) (by omega)) (by omega)) rfl (fun _ => rfl) (fun _ h _ => h) rfl (Kp.refl _ _) (fun b hb => .inl hb) ⟨rfl, rfl, rfl, fun _ _ => rfl, fun _ h => h⟩
  clear h hI hup hnl
  go_enter Tryz.func61, Tryz.ntmps61
  go_wp2_with (go_at_call 39; refine HD.out.mono ?_; rintro e w0 ⟨rfl, rfl⟩)
  go_ret
  exact HR.out
theorem compact_any (n : Nat) (w : World) (S : List Nat) (sb cb : Nat) (M : CM) (m : Man) (a : Nat) (x : SMem) (N O : List Tb) (h : StoAt w S sb cb M m a x) (hI : Inv n M m a (x.ns.map Nd.e) N O) (hub : M.left ≤ 9223372036854775807) (hn : n ≤ 90000) :
    Calls Tryz.prog 61 #[.pointer (some ⟨sb, 0, none⟩)] w fun e w' => OpEnd (n + 3) w w' S sb cb M (· = rowsE (x.ns.map Nd.e) N O) (· = rowsE (x.ns.map Nd.e) N O) (CompQ M m (x.ns.map Nd.e)) e := by
  cases N with
  | nil => exact compact_none n w S sb cb M m a x O h hI
  | cons y r => exact compact_some n w S sb cb M m a x (y :: r) O h hI hub hn (by simp)
def withH (x : SMem) (hb : Nat) : SMem := ⟨x.a1, x.c1, x.a2, x.c2, hb, []⟩
theorem StoAt.newHand {w w' : World} {S : List Nat} {sb cb : Nat} {M : CM} {m : Man} {a : Nat} {x : SMem} {hb : Nat} (h : StoAt w S sb cb M m a x) (hp : M.pend = none) (hx : Ext w w') (hb0 : w.heap.size ≤ hb) (ht : Tow w' hb []) : StoAt (w'.setCell ⟨sb, 6, none⟩ (.pointer (some ⟨hb, 0, none⟩))) (S ++ [hb]) sb cb M m a (withH x hb) := by
  have h' := h.ext hx
  have hs := h.lt _ h.cS.2
  have hc := h.lt _ h.cS.1
  have hg := h.glob.lt
  have hhl := ht.lt hb (by simp)
  have hK : Kp w' (w'.setCell ⟨sb, 6, none⟩ (.pointer (some ⟨hb, 0, none⟩))) [sb] := Kp.set w' (by simp) _
  have hold : ∀ b ∈ S, ¬ b = hb := fun b hb' e => by have := h.lt b hb'; omega
  refine ⟨h'.chip.oth hp h.sc _ _, h'.glob.kp hK (fun hm => by simp at hm; exact h.gS (hm ▸ h.cS.2)), ?_, h'.nw.kp hK (fun p e => by simp [(h.d1 p e).2.1]), h'.od.kp hK (fun p e => by simp [(h.d2 p e).2.1]), ht.kp hK (fun b hb' => ?_), h.sc, fun b hb' => ?_, fun p e => ⟨(h.d1 p e).1, (h.d1 p e).2.1, ?_⟩, fun p e => ⟨(h.d2 p e).1, (h.d2 p e).2.1, ?_⟩, ⟨by simp [h.cS.1], by simp [h.cS.2]⟩, fun b hb' => ?_, fun p e => ?_, fun hm => ?_, fun b hb' => ?_⟩
  · have := h'.blk.set 6 (.pointer (some ⟨hb, 0, none⟩))
    exact this
  · simp at hb'; simp; omega
  · have : b = hb := by simpa [withH] using hb'
    omega
  · have := hold _ (h.aS p (.inl e))
    simp [withH]; exact this
  · have := hold _ (h.aS p (.inr e))
    simp [withH]; exact this
  · have : b = hb := by simpa [withH] using hb'
    simp [this]
  · have : p.block ∈ S := h.aS p e
    simp [this]
  · rcases List.mem_append.1 hm with hm | hm
    · exact h.gS hm
    · simp at hm; omega
  · have hsz := hK.size
    rcases List.mem_append.1 hb' with hm | hm
    · exact Nat.lt_of_lt_of_le (h'.lt b hm) hsz
    · simp at hm; subst hm; exact Nat.lt_of_lt_of_le hhl hsz
def LayQ (M : CM) (m : Man) (N : List Tb) (M' : CM) (m' : Man) (hand' : List Ent) (N' : List Tb) : Prop := hand' = [] ∧ (∃ g : Nat, m'.lg = (g : Int) ∧ M'.pg g = [] ∧ M.bd g = false ∧ M.wk g = false) ∧ (∀ b : Nat, (b : Int) ∈ m'.nw → (b : Int) ∈ m.nw ∨ M.bd b = false) ∧ N'.length ≤ N.length + 3
end Go.Proofs.YtkibgflbidkalaaGreatDoor
