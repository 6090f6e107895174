/- StoF StoG. -/
import Derived.Test.YtkibgflbidkalaaGreatDoorStoRJ
import Derived.Test.YtkibgflbidkalaaGreatDoorStoBJ
import Derived.Lib.AppendZeros
import Derived.Test.YtkibgflbidkalaaGreatDoorLstLJ

/- Lists of lists of entries: they are appended to, and put together. -/
namespace Go.Proofs.YtkibgflbidkalaaGreatDoor
open Go.RowKit Go.WideShapes

def lvs (ls : List LE) : List Value := ls.map (fun l => .slice l.ao l.es.length l.cap)
def EntsOf (w : World) (ls : List LE) : Prop := ∀ l ∈ ls, l.es.length ≤ l.cap ∧ EntsAt w l.ao l.es ∧ ∀ a, l.ao = some a → ∃ cs, Blk w a.block cs 56
theorem EntsOf.ext {w w' : World} {ls : List LE} (h : EntsOf w ls) (hx : Ext w w') : EntsOf w' ls := fun l hl => ⟨(h l hl).1, (h l hl).2.1.ext hx, fun a ha => ((h l hl).2.2 a ha).imp fun _ hb => hb.ext hx⟩
structure LLs (W0 w : World) (v : Value) (ls : List LE) : Prop where
  own : w.ownsRow W0.heap.size 31 1 v ls.length (lvs ls)
  ext : Ext W0 w
theorem LLs.nil {W0 w : World} (h : Ext W0 w) : LLs W0 w (.slice none 0 0) [] := ⟨World.ownsRow_nil _ _ _ _, h⟩
theorem LLs.alloc {W0 w : World} {v : Value} {ls : List LE} (h : LLs W0 w v ls) (o : Obj) : LLs W0 (w.alloc o) v ls := ⟨h.own.alloc o, h.ext.alloc o⟩
theorem LLs.more {W0 w w' : World} {v : Value} {ls : List LE} (h : LLs W0 w v ls) (hx : Ext w w') : LLs W0 w' v ls := ⟨ownsRow_ext h.own hx, h.ext.trans hx⟩
theorem lvs_one (ls : List LE) : ∀ u ∈ lvs ls, u.oneCell' = true := by
  intro u hu
  obtain ⟨l, _, rfl⟩ := List.mem_map.1 hu
  rfl
theorem LLs.at {W0 w : World} {v : Value} {ls : List LE} (h : LLs W0 w v ls) (he : EntsOf w ls) : ∃ ao cap, v = .slice ao ls.length cap ∧ ls.length ≤ cap ∧ ListsAt w ao ls := by
  rcases h.own.2 with ⟨rfl, h0⟩ | ⟨g, cap, cur, rfl, _, hh, hle, _, _, htake⟩
  · have : ls = [] := List.eq_nil_of_length_eq_zero h0
    subst this
    exact ⟨none, 0, rfl, Nat.le_refl _, fun h => absurd rfl h⟩
  · refine ⟨_, cap, rfl, hle, fun _ => ⟨g, 0, rfl, fun i l hl => ?_⟩⟩
    refine ⟨?_, (he l (List.mem_of_getElem? hl)).1, (he l (List.mem_of_getElem? hl)).2.1⟩
    have hj : (lvs ls)[i]? = some (.slice l.ao l.es.length l.cap) := by simp [lvs, hl]
    rw [← htake, List.getElem?_take] at hj
    split at hj
    · rw [Nat.zero_add]; simp only [World.cell?, hh]; simpa using hj
    · simp at hj
theorem Tryz.infoL : (Tryz.prog.info? 31).map (fun i => (i.zero, i.size, i.bytes)) = some (some (.slice none 0 0), 1, 24) := by kernel_rfl
def CellsL (w : World) (ao : Option Addr) (ls : List LE) : Prop := ls ≠ [] → ∃ b off, ao = some ⟨b, off, none⟩ ∧ ∀ (i : Nat) l, ls[i]? = some l → w.cell? ⟨b, off + i, none⟩ = some (.slice l.ao l.es.length l.cap)
theorem ListsAt.cells {w : World} {ao : Option Addr} {ls : List LE} (h : ListsAt w ao ls) : CellsL w ao ls := fun hne => by
  obtain ⟨b, off, e, hc⟩ := h hne
  exact ⟨b, off, e, fun i l hl => (hc i l hl).1⟩
theorem cellsL_blk {w : World} {b : Nat} {l : LE} {t : TypeId} (h : Blk w b #[.slice l.ao l.es.length l.cap] t) : CellsL w (some ⟨b, 0, none⟩) [l] := fun _ => by
  refine ⟨b, 0, rfl, fun i y hy => ?_⟩
  cases i with
  | zero => simp at hy; subst hy; rw [Nat.zero_add, h.cell]; rfl
  | succ i => simp at hy
theorem wpList_app_lists {w : World} {ops : Array Oper} {rest : List Oper} {o : Oper} {a : Act} {Q : Exit → Act → World → Prop} (hgd : o.guard = none) (s x : Operand)
    (ho : o.op = .call { callee := .builtin .append, args := #[s, x], argTypes := #[152, 152] })
    (W0 : World) (v : Value) (es : List LE) (hs : a.eval s = v) (hl : LLs W0 w v es) (ao : Option Addr) (c : Nat) (fs : List LE) (hx : a.eval x = .slice ao fs.length c)
    (hfs : CellsL w ao fs) (hn : es.length + fs.length ≤ 10000)
    (h : ∀ v' w', LLs W0 w' v' (es ++ fs) → Ext W0 w' → w.grownBy w' v.ownBlock → wpList Tryz.prog ops Q rest (a.put o.dst v') w') : wpList Tryz.prog ops Q (o :: rest) a w := by
  obtain ⟨i0, hi, hz0, hz1, hz2⟩ := info_parts Tryz.infoL
  refine wpList_append_any hgd s x 152 ho W0.heap.size 31 i0 (.slice none 0 0) 1 24 Tryz.underlying152 hi hz0 hz1 hz2 rfl (by decide) v es.length (lvs es) hs hl.own ao fs.length c (lvs fs) hx (by simp [lvs]) (fun hne => ?_) (lvs_one fs) ?_ ?_ hl.ext.size ?_
  · obtain ⟨b, off, e, hc⟩ := hfs (fun e => hne (by rw [e]; rfl))
    refine ⟨_, e, fun j u hj => ?_⟩
    have : ((⟨b, off, none⟩ : Addr).add j) = ⟨b, off + j, none⟩ := by unfold Addr.add; by_cases h : j = 0 <;> simp [h]
    rw [this]
    unfold lvs at hj
    rw [List.getElem?_map, Option.map_eq_some_iff] at hj
    obtain ⟨l, hl, rfl⟩ := hj
    exact hc j l hl
  · unfold maxLen; omega
  · omega
  · intro v' w' p q
    have hx := hl.ext.grown q (own_ge hl.own)
    refine h v' w' ⟨?_, hx⟩ hx q
    rw [show lvs (es ++ fs) = lvs es ++ lvs fs by simp [lvs], List.length_append]; exact p
theorem own_other {W0 w : World} {v : Value} {ls : List LE} (h : LLs W0 w v ls) {b : Nat} {cs : Array Value} (hb : Blk w b cs 56) : ∀ r, v.ownBlock = some r → ¬ b = r := fun r hr e => by
  subst e
  rcases h.own.2 with ⟨rfl, _⟩ | ⟨g, cap, cur, rfl, _, hh, _⟩
  · cases hr
  · simp only [Value.ownBlock, Option.some.injEq] at hr
    subst hr
    rw [hb.blk] at hh
    cases hh
theorem EntsOf.grown {W0 w w' : World} {ls ms : List LE} {v : Value} (h : EntsOf w ls) (hl : LLs W0 w v ms) (hg : w.grownBy w' v.ownBlock) : EntsOf w' ls := fun l hm => by
  obtain ⟨h1, h2, h3⟩ := h l hm
  have hfar : ∀ {b : Nat} {cs : Array Value}, Blk w b cs 56 → Blk w' b cs 56 := fun hb => ⟨by rw [hg.block _ hb.lt (fun e => own_other hl hb _ e.symm rfl)]; exact hb.blk⟩
  refine ⟨h1, fun hne => ?_, fun a ha => (h3 a ha).imp fun _ hb => hfar hb⟩
  obtain ⟨b, off, e, hc⟩ := h2 hne
  obtain ⟨cs, hb⟩ := h3 _ e
  have hb' := hfar hb
  have key : ∀ o u, w.cell? ⟨b, o, none⟩ = some u → w'.cell? ⟨b, o, none⟩ = some u := fun o u hu => by
    rw [hb.cell] at hu; rw [hb'.cell]; exact hu
  exact ⟨b, off, e, fun i x hx => ⟨key _ _ (hc i x hx).1, key _ _ (hc i x hx).2.1, key _ _ (hc i x hx).2.2⟩⟩
set_option maxRecDepth 20000 in
set_option maxHeartbeats 1000000 in
theorem growL_nil (n : Nat) (w : World) (hn : n ≤ 10000) : Calls Tryz.prog 177 #[.slice none 0 0, .int .i64 (n : Int)] w fun e w' => ∃ v, e = .returned v ∧ LLs w w' v [] := by
  obtain ⟨i0, hi, hz0, hz1, hz2⟩ := info_parts Tryz.infoL
  rcases Nat.eq_zero_or_pos n with rfl | hp
  · go_enter Tryz.func177, Tryz.ntmps177
    go_wp2
    go_ret
    exact ⟨_, rfl, LLs.nil (Ext.refl _)⟩
  · have h1 : ¬ ((n : Int) < 0) := by omega
    have h4 : (0 : Int) < (n : Int) := by omega
    have hold : (Builtin.firstCells i0.size 0 (.slice none 0 0)).run Tryz.prog w.drew = .ok ([] : List Value).toArray w.drew := run_firstCells_none w.drew i0.size 0 0 0
    have hrz : ∀ ty, (Builtin.append_ #[152, 3] ty #[.slice none 0 0, .int .i64 (n : Int)]).run Tryz.prog w = _ := fun ty =>
      Lib.run_append_grow_zeros w 152 3 ty 31 i0 (.slice none 0 0) .i64 .i64 Tryz.underlying152 Tryz.underlying3 hi hz0 none 0 0 [] hold n hp (by omega) (by omega) (by omega) (by rw [hz2]; omega)
        (by rw [hz2]; simp only [Builtin.nextslicecap]; split <;> omega)
    have hGn : 0 + n ≤ grownCap w (0 + n) 0 31 := grownCap_ge w _ _ _
    have hGl := grownCap_le_maxLen w (0 + n) 0 31 (by unfold maxLen; omega)
    generalize grownCap w (0 + n) 0 31 = G at *
    obtain ⟨C, hC⟩ : ∃ C, C = (([] : List Value).toArray ++ Builtin.zeroCells (Value.slice none 0 0).cells n ++ Builtin.zeroCells (Value.slice none 0 0).cells (G - (0 + n))) := ⟨_, rfl⟩
    have hCs : C.size = G := by rw [hC]; simp [Builtin.zeroCells, Value.cells]; omega
    rw [← hC] at hrz
    clear hC hold hi hz0 hz1 hz2
    rw [Nat.zero_add] at hrz
    go_enter Tryz.func177, Tryz.ntmps177
    go_wp2_with (at_builtin; refine Lib.wpList_append_run _ rfl _ _ _ _ rfl _ _ rfl rfl _ _ (hrz _) ?_)
    go_ret
    refine ⟨_, rfl, ⟨?_, ((Ext.refl w).alloc _).drew⟩⟩
    exact (World.ownsRow_made (base := w.heap.size) (e := 31) (size := 1) w C G (Nat.le_refl _) hGl (by omega)).drew
structure LL3 where
  xs : List LE
  ao : Option Addr
  cap : Nat
def Lists3 (w : World) (ao : Option Addr) (ls : List LL3) : Prop :=
  ls ≠ [] → ∃ b off, ao = some ⟨b, off, none⟩ ∧ ∀ (i : Nat) l, ls[i]? = some l → w.cell? ⟨b, off + i, none⟩ = some (.slice l.ao l.xs.length l.cap) ∧ CellsL w l.ao l.xs
theorem Lists3.get {w : World} {ao : Option Addr} {ls : List LL3} (h : Lists3 w ao ls) {k : Nat} (hk : k < ls.length) :
    ∃ b off xs eo ec, ao = some ⟨b, off, none⟩ ∧ ls[k]? = some ⟨xs, eo, ec⟩ ∧ w.cell? ⟨b, off + k, none⟩ = some (.slice eo xs.length ec) ∧ CellsL w eo xs := by
  obtain ⟨b, off, rfl, hc⟩ := h (by intro e; subst e; simp at hk)
  have he : ls[k]? = some ls[k] := List.getElem?_eq_getElem hk
  exact ⟨b, off, ls[k].xs, ls[k].ao, ls[k].cap, rfl, he, hc k _ he⟩
theorem CellsL.ext {w w' : World} {ao : Option Addr} {ls : List LE} (h : CellsL w ao ls) (hx : Ext w w') : CellsL w' ao ls := fun hne => by
  obtain ⟨b, off, e, hc⟩ := h hne
  exact ⟨b, off, e, fun i l hl => hx.cell (hc i l hl)⟩
def cat3 (ls : List LL3) : List LE := ls.flatMap LL3.xs
theorem cat3_step {ls : List LL3} {k : Nat} {l : LL3} (h : ls[k]? = some l) : cat3 (ls.take (k + 1)) = cat3 (ls.take k) ++ l.xs := by
  rw [List.take_add_one, h]; simp [cat3]
theorem cat3_le (ls : List LL3) (k : Nat) : (cat3 (ls.take k)).length ≤ (cat3 ls).length := by
  have h : cat3 ls = cat3 (ls.take k) ++ cat3 (ls.drop k) := by unfold cat3; rw [← List.flatMap_append, List.take_append_drop]
  rw [h]; simp
set_option maxRecDepth 20000 in
set_option maxHeartbeats 2000000 in
theorem concat3_any (so : Option Addr) (sc : Nat) (ls : List LL3) (w : World) (hll : ls.length ≤ 100) (hl : (cat3 ls).length ≤ 1000) (hA : Lists3 w so ls) :
    Calls Tryz.prog 159 #[.slice so ls.length sc] w fun e w' => ∃ v, e = .returned v ∧ LLs w w' v (cat3 ls) := by
  go_enter Tryz.func159, Tryz.ntmps159
  go_wp2
  go_loop [3, 5, 11] (fun z _ i => ∃ k : Nat, k ≤ ls.length ∧ i = .int .i64 k ∧ z = .int .i64 ((cat3 (ls.take k)).length : Int)) (fun _ _ i => ls.length - (intOf i).toNat)
  case atStart => exact ⟨0, Nat.zero_le _, rfl, rfl⟩
  case round =>
    obtain ⟨k, hk, rfl, rfl⟩ := hrel
    have hcl := cat3_le ls k
    by_cases hlt : k < ls.length
    · obtain ⟨b, off, xs, eo, ec, rfl, he, h1, h2⟩ := hA.get hlt
      have hs := cat3_step he
      have hcl2 := cat3_le ls (k + 1)
      have hlen : (cat3 (ls.take (k + 1))).length = (cat3 (ls.take k)).length + xs.length := by rw [hs]; simp
      have HN : Hid (((cat3 (ls.take (k + 1))).length : Int) = ((cat3 (ls.take k)).length : Int) + (xs.length : Int)) := by unfold Hid; omega
      have HW : Hid (wrap64 (((cat3 (ls.take k)).length : Int) + (xs.length : Int)) = ((cat3 (ls.take k)).length : Int) + (xs.length : Int)) := by unfold Hid wrap64; omega
      have hw := HW.out
      have hpos : ¬ (((cat3 (ls.take k)).length : Int) + (xs.length : Int) < 0) := by omega
      clear he hA h2 hs hlen
      generalize (cat3 (ls.take k)).length = z at *
      go_wp2
      go_round
      case rel => exact ⟨k + 1, by omega, by go_num, by rw [HN.out]; exact congrArg (Value.int .i64) HW.out⟩
      case measure => simp [intOf]; omega
    · have hkn : ls.take k = ls := List.take_of_length_le (by omega)
      rw [hkn]
      have CG : Hid (Calls Tryz.prog 177 #[.slice none 0 0, .int .i64 ((cat3 ls).length : Int)] w fun e w' => ∃ v, e = .returned v ∧ LLs w w' v []) := growL_nil (cat3 ls).length w (by omega)
      clear hkn hcl
      go_wp2_with (go_at_call 177; refine CG.out.mono ?_; rintro e w1 ⟨v1, rfl, hI⟩)
      go_loopw [6, 8, 27] (fun v _ i wr => ∃ k : Nat, k ≤ ls.length ∧ i = .int .i64 k ∧ LLs w wr v (cat3 (ls.take k))) (fun _ _ i _ => ls.length - (intOf i).toNat)
      case atStart => exact ⟨0, Nat.zero_le _, rfl, hI⟩
      case round =>
        clear hI
        obtain ⟨k, hk, rfl, hI⟩ := hrel
        by_cases hlt : k < ls.length
        · obtain ⟨b, off, xs, eo, ec, rfl, he, h1, h2⟩ := hA.get hlt
          have HS : Hid (cat3 (ls.take (k + 1)) = cat3 (ls.take k) ++ xs) := cat3_step he
          have hcl2 := cat3_le ls (k + 1)
          have hlen : (cat3 (ls.take k)).length + xs.length ≤ 1000 := by rw [HS.out] at hcl2; simp at hcl2; omega
          have c1 := hI.ext.cell h1
          have c2 := h2.ext hI.ext
          clear he hA h1 h2 hcl2
          generalize cat3 (ls.take k) = z at *
          go_wp2_with (at_builtin; refine wpList_app_lists rfl _ _ rfl w _ z rfl hI eo ec xs rfl ?c1 ?c2 ?_)
          case c1 => exact c2
          case c2 => omega
          intro v2 w2 hI2 _ _
          clear hI c1 c2
          go_wp2
          go_roundw
          case rel => exact ⟨k + 1, by omega, by go_num, by rw [HS.out]; exact hI2⟩
          case measure => simp [intOf]; omega
        · have HE : Hid (cat3 ls = cat3 (ls.take k)) := by unfold Hid; rw [List.take_of_length_le (by omega)]
          clear hA
          go_wp2
          go_ret
          exact ⟨_, rfl, by rw [HE.out]; exact hI⟩
end Go.Proofs.YtkibgflbidkalaaGreatDoor

/- A store in memory: its tables, its rows. -/
namespace Go.Proofs.YtkibgflbidkalaaGreatDoor
open Go.RowKit Go.WideShapes

structure SMem where
  a1 : Option Addr
  c1 : Nat
  a2 : Option Addr
  c2 : Nat
  hb : Nat
  ns : List Nd
def storeC (cb : Nat) (m : Man) (a : Nat) (x : SMem) : Array Value := #[.pointer (some ⟨cb, 0, none⟩), .int .i64 m.ep, .int .i64 m.lg, .slice x.a1 m.nw.length x.c1, .slice x.a2 m.od.length x.c2, .int .i64 (a : Int), .pointer (some ⟨x.hb, 0, none⟩)]
structure StoAt (w : World) (S : List Nat) (sb cb : Nat) (M : CM) (m : Man) (a : Nat) (x : SMem) : Prop where
  chip : ChipAt w cb M
  glob : GlobT w
  blk : Blk w sb (storeC cb m a x) 107
  nw : NumsAt w x.a1 m.nw
  od : NumsAt w x.a2 m.od
  tow : Tow w x.hb x.ns
  sc : ¬ sb = cb
  ts : ∀ b ∈ x.hb :: x.ns.map Nd.b, ¬ b = cb ∧ ¬ b = sb
  d1 : ∀ p, x.a1 = some p → ¬ p.block = cb ∧ ¬ p.block = sb ∧ p.block ∉ x.hb :: x.ns.map Nd.b
  d2 : ∀ p, x.a2 = some p → ¬ p.block = cb ∧ ¬ p.block = sb ∧ p.block ∉ x.hb :: x.ns.map Nd.b
  cS : cb ∈ S ∧ sb ∈ S
  tS : ∀ b ∈ x.hb :: x.ns.map Nd.b, b ∈ S
  aS : ∀ p, x.a1 = some p ∨ x.a2 = some p → p.block ∈ S
  gS : 1 ∉ S
  lt : ∀ b ∈ S, b < w.heap.size
theorem StoAt.ext {w w' : World} {S : List Nat} {sb cb : Nat} {M : CM} {m : Man} {a : Nat} {x : SMem} (h : StoAt w S sb cb M m a x) (hx : Ext w w') : StoAt w' S sb cb M m a x :=
  ⟨h.chip.ext hx, h.glob.ext hx, h.blk.ext hx, h.nw.ext hx, h.od.ext hx, h.tow.ext hx, h.sc, h.ts, h.d1, h.d2, h.cS, h.tS, h.aS, h.gS, fun b hb => Nat.lt_of_lt_of_le (h.lt b hb) hx.size⟩
theorem StoAt.kp {w w' : World} {S T : List Nat} {sb cb : Nat} {M : CM} {m : Man} {a : Nat} {x : SMem} (h : StoAt w S sb cb M m a x) (hp : M.pend = none) (hK : Kp w w' T) (hd : ∀ b ∈ S, b ∉ T) (hg : 1 ∉ T) : StoAt w' S sb cb M m a x := by
  refine ⟨?_, h.glob.kp hK hg, hK.Blk h.blk (hd _ h.cS.2), h.nw.kp hK (fun p e => hd _ (h.aS p (.inl e))), h.od.kp hK (fun p e => hd _ (h.aS p (.inr e))), h.tow.kp hK (fun b hb => hd b (h.tS b hb)), h.sc, h.ts, h.d1, h.d2, h.cS, h.tS, h.aS, h.gS, fun b hb => Nat.lt_of_lt_of_le (h.lt b hb) hK.size⟩
  obtain ⟨⟨cs, fv, h1, h2, h3⟩, h4⟩ := h.chip
  refine ⟨⟨cs, fv, hK.Blk h1 (hd _ h.cS.1), h2, ?_⟩, h4⟩
  rw [hp] at h3 ⊢
  exact h3
theorem concatNN (W : World) (b : Nat) (no oo : Option Addr) (nc oc : Nat) (nw od : List Int) (t : TypeId) (h2 : Blk W b #[.slice no nw.length nc, .slice oo od.length oc] t)
    (hn : NumsAt W no nw) (ho : NumsAt W oo od) (hl : nw.length + od.length ≤ 100) :
    Calls Tryz.prog 42 #[.slice (some ⟨b, 0, none⟩) 2 2] W fun e w' => ∃ ao c, e = .returned (.slice ao (nw ++ od).length c) ∧ NumsAt w' ao (nw ++ od) ∧ Ext W w' ∧ ∀ a, ao = some a → W.heap.size ≤ a.block ∧ a.block < w'.heap.size := by
  have hc : cat [⟨nw, no, nc⟩, ⟨od, oo, oc⟩] = nw ++ od := by simp [cat]
  have hL : ListsI W (some ⟨b, 0, none⟩) [⟨nw, no, nc⟩, ⟨od, oo, oc⟩] := fun _ => by
    refine ⟨b, 0, rfl, fun i l hl => ?_⟩
    rw [Nat.zero_add, h2.cell]
    match i with
    | 0 => simp at hl; subst hl; exact ⟨rfl, hn⟩
    | 1 => simp at hl; subst hl; exact ⟨rfl, ho⟩
    | n + 2 => simp at hl
  have := concat_any (some ⟨b, 0, none⟩) 2 [⟨nw, no, nc⟩, ⟨od, oo, oc⟩] W (by simp) (by rw [hc]; simp; omega) hL
  rw [hc] at this
  refine this.mono ?_
  rintro e w' ⟨v, rfl, hI⟩
  obtain ⟨ao, cap, hv, ha⟩ := hI.at
  refine ⟨ao, cap, by rw [hv], ha, hI.ext, fun a e => ?_⟩
  exact hI.own.lt a.block (by rw [hv, e]; rfl)
structure TabsE (w w' : World) (e : Ending) (ts : List Tb) : Prop where
  ex : ∃ ao c ls, e = .returned (.tuple #[.slice ao ls.length c, .nilIface]) ∧ ls.length ≤ c ∧ CellsL w' ao ls ∧ EntsOf w' ls ∧ ls.map LE.es = tabsE ts ∧ Ext w w'
set_option maxRecDepth 20000 in
set_option maxHeartbeats 4000000 in
theorem tables_any (w : World) (S : List Nat) (sb cb : Nat) (M : CM) (m : Man) (a : Nat) (x : SMem) (N O : List Tb) (h : StoAt w S sb cb M m a x) (hp : M.pend = none) (hnw : m.nw = N.map (fun x => (x.b : Int))) (hod : m.od = O.map (fun x => (x.b : Int)))
    (htn : ∀ y ∈ N, TabAt M y.b y.es) (hto : ∀ y ∈ O, TabAt M y.b y.es) (hl : N.length + O.length ≤ 20) :
    Calls Tryz.prog 103 #[.pointer (some ⟨sb, 0, none⟩)] w fun e w' => TabsE w w' e (N ++ O) := by
  have k0 := h.blk.cell 0
  have k3 := h.blk.cell 3
  have k4 := h.blk.cell 4
  simp [storeC] at k0 k3 k4
  have HD : Hid (Calls Tryz.prog 39 #[.pointer (some ⟨cb, 0, none⟩)] w fun e w' => e = .returned (.bool false) ∧ w = w') := by
    have := down_any cb M w h.chip
    rw [show downB M = false by unfold downB; rw [hp]; rfl] at this
    exact this.mono fun _ _ h => ⟨h.1, h.2.symm⟩
  have hll : m.nw.length + m.od.length ≤ 100 := by rw [hnw, hod]; simp; omega
  have CC : Hid (∀ W b t, Ext w W → Blk W b #[.slice x.a1 m.nw.length x.c1, .slice x.a2 m.od.length x.c2] t → Calls Tryz.prog 42 #[.slice (some ⟨b, 0, none⟩) 2 2] W fun e w' => ∃ ao c, e = .returned (.slice ao (m.nw ++ m.od).length c) ∧ NumsAt w' ao (m.nw ++ m.od) ∧ Ext W w' ∧ ∀ a, ao = some a → W.heap.size ≤ a.block ∧ a.block < w'.heap.size) := fun W b t hx hb => concatNN W b x.a1 x.a2 x.c1 x.c2 m.nw m.od t hb (h.nw.ext hx) (h.od.ext hx) hll
  have HTB : Hid (∀ (i : Nat) (y : Tb), (N ++ O)[i]? = some y → (m.nw ++ m.od)[i]? = some (y.b : Int) ∧ TabAt M y.b y.es) := fun i y hy => by
    refine ⟨by rw [hnw, hod, ← List.map_append, List.getElem?_map, hy]; rfl, ?_⟩
    rcases List.mem_append.1 (List.mem_of_getElem? hy) with h' | h'
    · exact htn y h'
    · exact hto y h'
  have HLN : Hid ((m.nw ++ m.od).length = (N ++ O).length) := by rw [Hid, hnw, hod]; simp
  have HA : Hid (∀ W (y : Tb), Ext w W → TabAt M y.b y.es → Calls Tryz.prog 142 #[.pointer (some ⟨cb, 0, none⟩), .int .i64 (y.b : Int)] W fun e w' => ∃ ao c, e = .returned (.tuple #[.slice ao y.es.length c, .nilIface]) ∧ EntsAt w' ao y.es ∧ y.es.length ≤ c ∧ (∀ a, ao = some a → ∃ cs, Blk w' a.block cs 56) ∧ Ext W w') := fun W y hx ht => by
    have := tabAllC_any cb y.b M W (h.chip.ext hx)
    rw [ht.all hp] at this
    exact this
  have HK0 : Hid (w.cell? ⟨sb, 0, none⟩ = some (.pointer (some ⟨cb, 0, none⟩))) := k0
  have hNO : (N ++ O).length ≤ 20 := by simp; omega
  have hlen1 := HLN.out
  clear h hnw hod htn hto hl
  generalize N ++ O = ts at *
  go_enter Tryz.func103, Tryz.ntmps103
  go_wp2_with (go_at_call 39; refine HD.out.mono ?_; rintro e w1 ⟨rfl, rfl⟩)
  go_region_held3 (fun w' => w'.cell? ⟨sb, 3, none⟩ = some (.slice x.a1 m.nw.length x.c1) ∧ w'.cell? ⟨sb, 4, none⟩ = some (.slice x.a2 m.od.length x.c2))
    (first | (go_keep; done) | exact ⟨hw2.cell k3, hw2.cell k4⟩)
    (first | (go_at_call 42; refine (CC.out _ _ _ (by repeat (first | exact Ext.refl _ | refine Ext.drew ?_ | refine Ext.drewN ?_ _ | refine Ext.alloc ?_ _)) (by first | exact Blk.new _ _ _ | exact Blk.drewN (Blk.new _ _ _) _ | exact Blk.drew (Blk.new _ _ _))).mono ?_; rintro e w2 ⟨ao, c, rfl, hN2, hx2, hb2⟩; have hw2 : Ext w w2 := Ext.trans (by repeat (first | exact Ext.refl _ | refine Ext.drew ?_ | refine Ext.drewN ?_ _ | refine Ext.alloc ?_ _)) hx2))
  have HX2 : Hid (Ext w w2) := hw2
  have HN2 : Hid (NumsAt w2 ao (m.nw ++ m.od)) := hN2
  clear hN2 hx2 hb2 hw2 CC HD k0 k3 k4 hll
  go_wp2
  go_loopw [4, 6, 7, 8, 28] (fun v _ _ _ i wr => ∃ (k : Nat) (ls : List LE), k ≤ ts.length ∧ i = .int .i64 k ∧ LLs w2 wr v ls ∧ EntsOf wr ls ∧ ls.map LE.es = tabsE (ts.take k)) (fun _ _ _ _ i _ => ts.length - (intOf i).toNat)
  case atStart => exact ⟨0, [], Nat.zero_le _, rfl, LLs.nil (Ext.refl _), fun l hl => (by cases hl), rfl⟩
  case round =>
    obtain ⟨k, ls, hk, rfl, hL, hE, hm⟩ := hrel
    have hxr := hL.ext
    have hx0 := HX2.out.trans hxr
    have hlk : ls.length = k := by have := congrArg List.length hm; simp [tabsE] at this; omega
    obtain ⟨vo, vc, hv⟩ := ownsRow_slice hL.own
    subst hv
    by_cases hlt : k < ts.length
    · obtain ⟨y, hy⟩ : ∃ y, ts[k]? = some y := ⟨ts[k], List.getElem?_eq_getElem hlt⟩
      obtain ⟨hyb, hyt⟩ := HTB.out k y hy
      obtain ⟨b, off, z, rfl, hz, hc⟩ := (HN2.out.ext hxr).get (show k < (m.nw ++ m.od).length by omega)
      obtain rfl : z = (y.b : Int) := by rw [hz] at hyb; exact Option.some.inj hyb
      have HAW : Hid (Calls Tryz.prog 142 #[.pointer (some ⟨cb, 0, none⟩), .int .i64 (y.b : Int)] wr fun e w' => ∃ ao c, e = .returned (.tuple #[.slice ao y.es.length c, .nilIface]) ∧ EntsAt w' ao y.es ∧ y.es.length ≤ c ∧ (∀ a, ao = some a → ∃ cs, Blk w' a.block cs 56) ∧ Ext wr w') := HA.out wr y hx0 hyt
      have HM : Hid (tabsE (ts.take (k + 1)) = tabsE (ts.take k) ++ [y.es]) := by rw [Hid, List.take_add_one, hy]; simp [tabsE]
      have HL : Hid (LLs w2 wr (.slice vo ls.length vc) ls) := hL
      have HE : Hid (EntsOf wr ls) := hE
      have HMM : Hid (ls.map LE.es = tabsE (ts.take k)) := hm
      have q0 := hx0.cell HK0.out
      have hk20 : ls.length ≤ 20 := by omega
      clear hyb hyt hz hy hL hE hm HA HTB hlk
      generalize y.b = yb at *
      generalize y.es = ye at *
      go_wp2_with (first
        | (go_at_call 142; refine HAW.out.mono ?_; rintro e w3 ⟨ao3, c3, rfl, hE3, hc3, hb3, hx3⟩)
        | (at_builtin; refine wpList_app_lists rfl _ _ rfl w2 (.slice vo ls.length vc) ls rfl ((HL.out.more hx3).alloc _) _ 1 [⟨ye, ao3, c3⟩] rfl (cellsL_blk (l := ⟨ye, ao3, c3⟩) (Blk.new w3 _ _)) ?c1 ?_))
      case c1 => simp; omega
      intro v4 w4 hL4 hx4 hg4
      obtain ⟨v4o, v4c, hv4⟩ := ownsRow_slice hL4.own
      subst hv4
      go_wp2
      go_roundw
      case rel =>
        have hLa := (HL.out.more hx3).alloc (.cells #[.slice ao3 ye.length c3] 31)
        have hEa : EntsOf (w3.alloc (.cells #[.slice ao3 ye.length c3] 31)) (ls ++ [⟨ye, ao3, c3⟩]) := fun l hl => by
          rcases List.mem_append.1 hl with hl | hl
          · exact ((HE.out.ext hx3).ext ((Ext.refl w3).alloc _)) l hl
          · simp at hl; subst hl
            exact ⟨hc3, hE3.ext ((Ext.refl w3).alloc _), fun a ha => (hb3 a ha).imp fun _ hb => hb.alloc _⟩
        refine ⟨k + 1, ls ++ [⟨ye, ao3, c3⟩], by omega, by go_num, hL4, hEa.grown hLa hg4, ?_⟩
        rw [HM.out, List.map_append, HMM.out]; rfl
      case measure => simp [intOf]; omega
    · have HM : Hid (tabsE (ts.take k) = tabsE ts) := by rw [Hid, List.take_of_length_le (by omega)]
      obtain ⟨ao5, c5, e5, hc5, hl5⟩ := hL.at hE
      simp only [Value.slice.injEq] at e5
      obtain ⟨rfl, _, rfl⟩ := e5
      have HR : Hid (TabsE w wr (.returned (.tuple #[.slice vo ls.length vc, .nilIface])) ts) := ⟨vo, vc, ls, rfl, hc5, hl5.cells, hE, by rw [hm, HM.out], hx0⟩
      clear hL hE hm hl5 HA HTB hlk
      go_wp2
      go_ret2
      exact HR.out
end Go.Proofs.YtkibgflbidkalaaGreatDoor
