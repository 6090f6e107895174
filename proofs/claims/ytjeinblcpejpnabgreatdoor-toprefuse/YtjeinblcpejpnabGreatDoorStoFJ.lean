/- StoB StoF. -/
import Derived.Test.YtjeinblcpejpnabGreatDoorGlbAJ
import Derived.Test.YtjeinblcpejpnabGreatDoorStoRJ
import Derived.Lib.AppendZeros

/- A store's hand: putAll. -/
namespace Go.Proofs.YtjeinblcpejpnabGreatDoor
open Go.RowKit Go.WideShapes

theorem Kp.cell {w w' : World} {S : List Nat} (h : Kp w w' S) {b o : Nat} {v : Value} (hb : b ∉ S) (hc : w.cell? ⟨b, o, none⟩ = some v) : w'.cell? ⟨b, o, none⟩ = some v := by
  have hlt : b < w.heap.size := by
    rcases Nat.lt_or_ge b w.heap.size with h' | h'
    · exact h'
    · simp [World.cell?, Array.getElem?_eq_none h'] at hc
  have := h.blk b hlt hb
  simp only [World.cell?, this] at hc ⊢
  exact hc
theorem EntsAt.kp {w w' : World} {ao : Option Addr} {es : List Ent} {S : List Nat} (h : EntsAt w ao es) (hK : Kp w w' S) (ho : ∀ a, ao = some a → a.block ∉ S) : EntsAt w' ao es := fun hne => by
  obtain ⟨b, off, rfl, hc⟩ := h hne
  have hb := ho _ rfl
  exact ⟨b, off, rfl, fun i e he => ⟨hK.cell hb (hc i e he).1, hK.cell hb (hc i e he).2.1, hK.cell hb (hc i e he).2.2⟩⟩
theorem NumsAt.kp {w w' : World} {ao : Option Addr} {xs : List Int} {S : List Nat} (h : NumsAt w ao xs) (hK : Kp w w' S) (ho : ∀ a, ao = some a → a.block ∉ S) : NumsAt w' ao xs := fun hne => by
  obtain ⟨b, off, e, hc⟩ := h hne
  have hb := ho _ e
  exact ⟨b, off, e, fun i x hx => hK.cell hb (hc i x hx)⟩
theorem GlobT.kp {w w' : World} {S : List Nat} (h : GlobT w) (hK : Kp w w' S) (hn : 1 ∉ S) : GlobT w' := by
  obtain ⟨f, hf⟩ := h
  exact ⟨f, fun i hi => ⟨hK.cell hn (hf i hi).1, (hf i hi).2⟩⟩
theorem Kp.grown {w w' : World} {cb : Nat} (h : w.grownBy w' (some cb)) : Kp w w' [cb] :=
  ⟨h.os, h.tape, h.output, h.size, fun k hk hn => h.block k hk (fun e => hn (by simp at e; simp [e]))⟩
/-- What changes new blocks besides. -/
theorem Kp.new {w w1 w2 : World} {S T : List Nat} (h : Kp w w1 S) (k : Kp w1 w2 T) (ht : ∀ x ∈ T, x ∈ S ∨ w.heap.size ≤ x) : Kp w w2 S :=
  ⟨k.os.trans h.os, k.tape.trans h.tape, k.output.trans h.output, Nat.le_trans h.size k.size, fun i hi hs => (k.blk i (Nat.lt_of_lt_of_le hi h.size) (fun hh => by
    rcases ht i hh with h' | h'
    · exact hs h'
    · omega)).trans (h.blk i hi hs)⟩
theorem Tow.kp {w w' : World} {lb : Nat} {ns : List Nd} {S : List Nat} (h : Tow w lb ns) (hK : Kp w w' S) (hd : ∀ x ∈ lb :: ns.map Nd.b, x ∉ S) : Tow w' lb ns := by
  obtain ⟨g, L, hC, hM⟩ := h
  exact ⟨g, L, hC, hK.Blk hM.head (hd lb (by simp)), fun n hn => hK.Blk (hM.node n hn) (hd n.b (List.mem_cons_of_mem _ (List.mem_map_of_mem hn)))⟩
theorem Tow.lt {w : World} {lb : Nat} {ns : List Nd} (h : Tow w lb ns) : ∀ x ∈ lb :: ns.map Nd.b, x < w.heap.size := by
  obtain ⟨g, L, hC, hM⟩ := h
  intro x hx
  rcases List.mem_cons.1 hx with rfl | hx
  · exact hM.head.lt
  · obtain ⟨n, hn, rfl⟩ := List.mem_map.1 hx
    exact (hM.node n hn).lt
theorem ownsRow_slice {w : World} {base : Nat} {e : TypeId} {size : Nat} {v : Value} {n : Nat} {xs : List Value} (h : w.ownsRow base e size v n xs) : ∃ ao cap, v = .slice ao n cap := by
  rcases h.2 with ⟨rfl, rfl⟩ | ⟨g, cap, cur, rfl, _⟩
  · exact ⟨_, _, rfl⟩
  · exact ⟨_, _, rfl⟩
/-- Entries have been put. -/
structure HandP (w w' : World) (lb : Nat) (ns : List Nd) (es : List Ent) : Prop where
  ex : ∃ ms, Tow w' lb ms ∧ ms.map Nd.e = putsE (ns.map Nd.e) es ∧ ms.length ≤ ns.length + es.length ∧ Kp w w' (lb :: ns.map Nd.b) ∧ ∀ n ∈ ms, n.b ∈ ns.map Nd.b ∨ w.heap.size ≤ n.b
set_option maxRecDepth 20000 in
set_option maxHeartbeats 4000000 in
theorem putAll_any (lb : Nat) (ns : List Nd) (ao : Option Addr) (cap : Nat) (es : List Ent) (w : World) (h : Tow w lb ns) (hsm : ns.length + es.length ≤ 900) (hg : GlobT w) (hgn : 1 ∉ lb :: ns.map Nd.b) (hes : EntsAt w ao es) (hno : ∀ a, ao = some a → a.block ∉ lb :: ns.map Nd.b) :
    Calls Tryz.prog 38 #[.pointer (some ⟨lb, 0, none⟩), .slice ao es.length cap] w fun e w' => e = .returned (.tuple #[]) ∧ HandP w w' lb ns es := by
  have HS : Hid (∀ ms : List Nd, (∀ n ∈ ms, n.b ∈ ns.map Nd.b ∨ w.heap.size ≤ n.b) → ∀ x ∈ lb :: ms.map Nd.b, x ∈ lb :: ns.map Nd.b ∨ w.heap.size ≤ x) := fun ms hm x hx => by
    rcases List.mem_cons.1 hx with rfl | hx
    · exact .inl (by simp)
    · obtain ⟨n, hn, rfl⟩ := List.mem_map.1 hx
      rcases hm n hn with h | h
      · exact .inl (List.mem_cons_of_mem _ h)
      · exact .inr h
  have HG : Hid (GlobT w) := hg
  go_enter Tryz.func38, Tryz.ntmps38
  go_wp2
  go_loopw [5, 8] (fun _ i wr => ∃ (k : Nat) (ms : List Nd), k ≤ es.length ∧ i = .int .i64 k ∧ Tow wr lb ms ∧ ms.map Nd.e = putsE (ns.map Nd.e) (es.take k) ∧ ms.length ≤ ns.length + k ∧ Kp w wr (lb :: ns.map Nd.b) ∧ ∀ n ∈ ms, n.b ∈ ns.map Nd.b ∨ w.heap.size ≤ n.b) (fun _ i _ => es.length - (intOf i).toNat)
  case atStart => exact ⟨0, ns, Nat.zero_le _, rfl, h, by simp [putsE], by omega, Kp.refl _ _, fun n hn => .inl (List.mem_map_of_mem hn)⟩
  case round =>
    obtain ⟨k, ms, hk, rfl, hT, hmE, hml, hK, hnew⟩ := hrel
    by_cases hlt : k < es.length
    · have hes' := hes.kp hK hno
      obtain ⟨b, off, ek, ev, eg, rfl, he, h1, h2, h3⟩ := hes'.get hlt
      have HE : Hid (putsE (ns.map Nd.e) (es.take (k + 1)) = putE (putsE (ns.map Nd.e) (es.take k)) ⟨ek, ev, eg⟩) := by
        rw [Hid, take_snocE he]; simp [putsE]
      have hG := HG.out.kp hK hgn
      have hx1 : Ext wr (wr.alloc (.cells #[.string ek, .string ev, .bool eg] 49)) := (Ext.refl wr).alloc _
      have b1 : Blk (wr.alloc (.cells #[.string ek, .string ev, .bool eg] 49)) wr.heap.size #[.string ek, .string ev, .bool eg] 49 := Blk.new _ _ _
      have hT1 := hT.ext hx1
      have hG1 := hG.ext hx1
      have H1 : Hid (∀ q, ((wr.alloc (.cells #[.string ek, .string ev, .bool eg] 49)).drewN q).cell? ⟨wr.heap.size, 0, none⟩ = some (.string ek) ∧ ((wr.alloc (.cells #[.string ek, .string ev, .bool eg] 49)).drewN q).cell? ⟨wr.heap.size, 1, none⟩ = some (.string ev) ∧ ((wr.alloc (.cells #[.string ek, .string ev, .bool eg] 49)).drewN q).cell? ⟨wr.heap.size, 2, none⟩ = some (.bool eg)) := fun q => ⟨(b1.drewN q).cell 0, (b1.drewN q).cell 1, (b1.drewN q).cell 2⟩
      have CM : Hid (∀ q, Calls Tryz.prog 64 #[.pointer (some ⟨lb, 0, none⟩)] ((wr.alloc (.cells #[.string ek, .string ev, .bool eg] 49)).drewN q) fun e w' => e = .returned (.int .i64 (ms.length : Int)) ∧ w' = (wr.alloc (.cells #[.string ek, .string ev, .bool eg] 49)).drewN q) := fun q => many_any lb ms _ (hT1.ext ((Ext.refl _).drewN q))
      have CZ : Hid (∀ q, Calls Tryz.prog 63 #[.int .u64 (IntKind.u64.wrap (IntKind.i64.wrap ((ms.length : Int) + 1)))] ((wr.alloc (.cells #[.string ek, .string ev, .bool eg] 49)).drewN q) fun e w' => (∃ n : Nat, n < 256 ∧ e = .returned (.int .i64 (n : Int))) ∧ w' = (wr.alloc (.cells #[.string ek, .string ev, .bool eg] 49)).drewN q) := fun q => by
        have := tz_any (ms.length + 1) ((wr.alloc (.cells #[.string ek, .string ev, .bool eg] 49)).drewN q) (by omega) (by omega) (hG1.ext ((Ext.refl _).drewN q))
        rw [show ((ms.length + 1 : Nat) : Int) = IntKind.u64.wrap (IntKind.i64.wrap ((ms.length : Int) + 1)) by rw [IntKind.wrap_i64, IntKind.wrap_u64]; omega] at this
        exact this
      have CP : Hid (∀ q hi, Calls Tryz.prog 62 #[.pointer (some ⟨lb, 0, none⟩), .agg #[.string ek, .string ev, .bool eg], .int .i64 hi] ((wr.alloc (.cells #[.string ek, .string ev, .bool eg] 49)).drewN q) fun e w' => e = .returned (.tuple #[]) ∧ PutP ((wr.alloc (.cells #[.string ek, .string ev, .bool eg] 49)).drewN q) w' lb ms ⟨ek, ev, eg⟩) := fun q hi => by
        obtain ⟨g, L, hC, hM⟩ := hT1.ext ((Ext.refl _).drewN q)
        exact put_any lb ms L ek ev eg hi _ hC g hM (by omega)
      have HNB : Hid (wr.heap.size ∉ lb :: ms.map Nd.b) := fun hh => by have := hT.lt _ hh; omega
      have hmi : (ms.length : Int) ≤ 900 := by omega
      have HM : Hid (ms.map Nd.e = putsE (ns.map Nd.e) (es.take k)) := hmE
      have HN : Hid (∀ n ∈ ms, n.b ∈ ns.map Nd.b ∨ w.heap.size ≤ n.b) := hnew
      have HK : Hid (Kp w wr (lb :: ns.map Nd.b)) := hK
      have HL : Hid (ms.length ≤ ns.length + k) := hml
      clear hes' he hG hG1 hT1 hx1 b1 hmE hnew hK hT hml
      go_wp2_with fail
      go_region_held3 (fun w' => w'.cell? ⟨wr.heap.size, 0, none⟩ = some (.string ek) ∧ w'.cell? ⟨wr.heap.size, 1, none⟩ = some (.string ev) ∧ w'.cell? ⟨wr.heap.size, 2, none⟩ = some (.bool eg))
        (first | (go_keep; done) | exact ⟨hKp.cell HNB.out (H1.out _).1, hKp.cell HNB.out (H1.out _).2.1, hKp.cell HNB.out (H1.out _).2.2⟩)
        (first
          | (go_at_call 64; refine (CM.out _).mono ?_; rintro e w2 ⟨rfl, rfl⟩)
          | (go_at_call 63; refine (CZ.out _).mono ?_; rintro e w2 ⟨⟨n, hn, rfl⟩, rfl⟩)
          | (go_at_call 62; refine (CP.out _ _).mono ?_; rintro e w3 ⟨rfl, ⟨ms2, M2, g2, hC2, hM2, hme, hKp, hf⟩⟩))
      go_wp2
      go_roundw
      case rel =>
        have hK2 : Kp wr w3 (lb :: ms.map Nd.b) := (Kp.ofExt (((Ext.refl wr).alloc _).drewN _) _).trans hKp
        have hKK := HK.out
        refine ⟨k + 1, ms2, by omega, by go_num, ⟨g2, M2, hC2, hM2⟩, ?_, ?_, hKK.new hK2 (HS.out ms HN.out), fun n hn => ?_⟩
        · rw [hme, HE.out, HM.out]
        · have h9 := congrArg List.length hme
          have := putE_len (ms.map Nd.e) ⟨ek, ev, eg⟩
          have := HL.out
          simp at h9 this; simp at *; omega
        · rcases hf n hn with h' | h'
          · obtain ⟨n', hn', e'⟩ := List.mem_map.1 h'
            rw [← e']; exact HN.out n' hn'
          · have := hKK.size
            simp at h'; exact .inr (by omega)
      case measure => simp [intOf]; omega
    · have HE : Hid (putsE (ns.map Nd.e) (es.take k) = putsE (ns.map Nd.e) es) := by rw [Hid, List.take_of_length_le (by omega)]
      go_wp2
      go_end0
      exact ⟨rfl, ms, hT, by rw [hmE, HE.out], by omega, hK, hnew⟩
end Go.Proofs.YtjeinblcpejpnabGreatDoor

/- Lists of lists of entries: they are appended to, and put together. -/
namespace Go.Proofs.YtjeinblcpejpnabGreatDoor
open Go.RowKit Go.WideShapes

def lvs (ls : List LE) : List Value := ls.map (fun l => .slice l.ao l.es.length l.cap)
/-- Where a list's entries lie. -/
def EntsOf (w : World) (ls : List LE) : Prop := ∀ l ∈ ls, l.es.length ≤ l.cap ∧ EntsAt w l.ao l.es ∧ ∀ a, l.ao = some a → ∃ cs, Blk w a.block cs 49
theorem EntsOf.ext {w w' : World} {ls : List LE} (h : EntsOf w ls) (hx : Ext w w') : EntsOf w' ls := fun l hl => ⟨(h l hl).1, (h l hl).2.1.ext hx, fun a ha => ((h l hl).2.2 a ha).imp fun _ hb => hb.ext hx⟩
/-- A list of lists that was made behind the world W0. -/
structure LLs (W0 w : World) (v : Value) (ls : List LE) : Prop where
  own : w.ownsRow W0.heap.size 37 1 v ls.length (lvs ls)
  ext : Ext W0 w
theorem LLs.nil {W0 w : World} (h : Ext W0 w) : LLs W0 w (.slice none 0 0) [] := ⟨World.ownsRow_nil _ _ _ _, h⟩
theorem LLs.alloc {W0 w : World} {v : Value} {ls : List LE} (h : LLs W0 w v ls) (o : Obj) : LLs W0 (w.alloc o) v ls := ⟨h.own.alloc o, h.ext.alloc o⟩
theorem LLs.more {W0 w w' : World} {v : Value} {ls : List LE} (h : LLs W0 w v ls) (hx : Ext w w') : LLs W0 w' v ls := ⟨ownsRow_ext h.own hx, h.ext.trans hx⟩
theorem lvs_one (ls : List LE) : ∀ u ∈ lvs ls, u.oneCell' = true := by
  intro u hu
  obtain ⟨l, _, rfl⟩ := List.mem_map.1 hu
  rfl
theorem LLs.at {W0 w : World} {v : Value} {ls : List LE} (h : LLs W0 w v ls) (he : EntsOf w ls) : ∃ ao cap, v = .slice ao ls.length cap ∧ ls.length ≤ cap ∧ ListsAt w ao ls := by
  rcases h.own.2 with ⟨rfl, h0⟩ | ⟨g, cap, cur, rfl, _, hh, hle, _, _, htake⟩
  · have : ls = [] := List.eq_nil_of_length_eq_zero h0
    subst this
    exact ⟨none, 0, rfl, Nat.le_refl _, fun h => absurd rfl h⟩
  · refine ⟨_, cap, rfl, hle, fun _ => ⟨g, 0, rfl, fun i l hl => ?_⟩⟩
    refine ⟨?_, (he l (List.mem_of_getElem? hl)).1, (he l (List.mem_of_getElem? hl)).2.1⟩
    have hj : (lvs ls)[i]? = some (.slice l.ao l.es.length l.cap) := by simp [lvs, hl]
    rw [← htake, List.getElem?_take] at hj
    split at hj
    · rw [Nat.zero_add]; simp only [World.cell?, hh]; simpa using hj
    · simp at hj
theorem Tryz.infoL : (Tryz.prog.info? 37).map (fun i => (i.zero, i.size, i.bytes)) = some (some (.slice none 0 0), 1, 24) := by kernel_rfl
/-- What a slice of lists has, cell by cell. -/
def CellsL (w : World) (ao : Option Addr) (ls : List LE) : Prop := ls ≠ [] → ∃ b off, ao = some ⟨b, off, none⟩ ∧ ∀ (i : Nat) l, ls[i]? = some l → w.cell? ⟨b, off + i, none⟩ = some (.slice l.ao l.es.length l.cap)
theorem ListsAt.cells {w : World} {ao : Option Addr} {ls : List LE} (h : ListsAt w ao ls) : CellsL w ao ls := fun hne => by
  obtain ⟨b, off, e, hc⟩ := h hne
  exact ⟨b, off, e, fun i l hl => (hc i l hl).1⟩
theorem cellsL_blk {w : World} {b : Nat} {l : LE} {t : TypeId} (h : Blk w b #[.slice l.ao l.es.length l.cap] t) : CellsL w (some ⟨b, 0, none⟩) [l] := fun _ => by
  refine ⟨b, 0, rfl, fun i y hy => ?_⟩
  cases i with
  | zero => simp at hy; subst hy; rw [Nat.zero_add, h.cell]; rfl
  | succ i => simp at hy
theorem wpList_app_lists {w : World} {ops : Array Oper} {rest : List Oper} {o : Oper} {a : Act} {Q : Exit → Act → World → Prop} (hgd : o.guard = none) (s x : Operand)
    (ho : o.op = .call { callee := .builtin .append, args := #[s, x], argTypes := #[99, 99] })
    (W0 : World) (v : Value) (es : List LE) (hs : a.eval s = v) (hl : LLs W0 w v es) (ao : Option Addr) (c : Nat) (fs : List LE) (hx : a.eval x = .slice ao fs.length c)
    (hfs : CellsL w ao fs) (hn : es.length + fs.length ≤ 10000)
    (h : ∀ v' w', LLs W0 w' v' (es ++ fs) → Ext W0 w' → w.grownBy w' v.ownBlock → wpList Tryz.prog ops Q rest (a.put o.dst v') w') : wpList Tryz.prog ops Q (o :: rest) a w := by
  obtain ⟨i0, hi, hz0, hz1, hz2⟩ := info_parts Tryz.infoL
  refine wpList_append_any hgd s x 99 ho W0.heap.size 37 i0 (.slice none 0 0) 1 24 Tryz.underlying99 hi hz0 hz1 hz2 rfl (by decide) v es.length (lvs es) hs hl.own ao fs.length c (lvs fs) hx (by simp [lvs]) (fun hne => ?_) (lvs_one fs) ?_ ?_ hl.ext.size ?_
  · obtain ⟨b, off, e, hc⟩ := hfs (fun e => hne (by rw [e]; rfl))
    refine ⟨_, e, fun j u hj => ?_⟩
    have : ((⟨b, off, none⟩ : Addr).add j) = ⟨b, off + j, none⟩ := by unfold Addr.add; by_cases h : j = 0 <;> simp [h]
    rw [this]
    unfold lvs at hj
    rw [List.getElem?_map, Option.map_eq_some_iff] at hj
    obtain ⟨l, hl, rfl⟩ := hj
    exact hc j l hl
  · unfold maxLen; omega
  · omega
  · intro v' w' p q
    have hx := hl.ext.grown q (own_ge hl.own)
    refine h v' w' ⟨?_, hx⟩ hx q
    rw [show lvs (es ++ fs) = lvs es ++ lvs fs by simp [lvs], List.length_append]; exact p
/-- Entries lie in other blocks than lists. -/
theorem own_other {W0 w : World} {v : Value} {ls : List LE} (h : LLs W0 w v ls) {b : Nat} {cs : Array Value} (hb : Blk w b cs 49) : ∀ r, v.ownBlock = some r → ¬ b = r := fun r hr e => by
  subst e
  rcases h.own.2 with ⟨rfl, _⟩ | ⟨g, cap, cur, rfl, _, hh, _⟩
  · cases hr
  · simp only [Value.ownBlock, Option.some.injEq] at hr
    subst hr
    rw [hb.blk] at hh
    cases hh
theorem EntsOf.grown {W0 w w' : World} {ls ms : List LE} {v : Value} (h : EntsOf w ls) (hl : LLs W0 w v ms) (hg : w.grownBy w' v.ownBlock) : EntsOf w' ls := fun l hm => by
  obtain ⟨h1, h2, h3⟩ := h l hm
  have hfar : ∀ {b : Nat} {cs : Array Value}, Blk w b cs 49 → Blk w' b cs 49 := fun hb => ⟨by rw [hg.block _ hb.lt (fun e => own_other hl hb _ e.symm rfl)]; exact hb.blk⟩
  refine ⟨h1, fun hne => ?_, fun a ha => (h3 a ha).imp fun _ hb => hfar hb⟩
  obtain ⟨b, off, e, hc⟩ := h2 hne
  obtain ⟨cs, hb⟩ := h3 _ e
  have hb' := hfar hb
  have key : ∀ o u, w.cell? ⟨b, o, none⟩ = some u → w'.cell? ⟨b, o, none⟩ = some u := fun o u hu => by
    rw [hb.cell] at hu; rw [hb'.cell]; exact hu
  exact ⟨b, off, e, fun i x hx => ⟨key _ _ (hc i x hx).1, key _ _ (hc i x hx).2.1, key _ _ (hc i x hx).2.2⟩⟩
set_option maxRecDepth 20000 in
set_option maxHeartbeats 1000000 in
theorem growL_nil (n : Nat) (w : World) (hn : n ≤ 10000) : Calls Tryz.prog 101 #[.slice none 0 0, .int .i64 (n : Int)] w fun e w' => ∃ v, e = .returned v ∧ LLs w w' v [] := by
  obtain ⟨i0, hi, hz0, hz1, hz2⟩ := info_parts Tryz.infoL
  rcases Nat.eq_zero_or_pos n with rfl | hp
  · go_enter Tryz.func101, Tryz.ntmps101
    go_wp2
    go_ret
    exact ⟨_, rfl, LLs.nil (Ext.refl _)⟩
  · have h1 : ¬ ((n : Int) < 0) := by omega
    have h4 : (0 : Int) < (n : Int) := by omega
    have hold : (Builtin.firstCells i0.size 0 (.slice none 0 0)).run Tryz.prog w.drew = .ok ([] : List Value).toArray w.drew := run_firstCells_none w.drew i0.size 0 0 0
    have hrz : ∀ ty, (Builtin.append_ #[99, 3] ty #[.slice none 0 0, .int .i64 (n : Int)]).run Tryz.prog w = _ := fun ty =>
      Lib.run_append_grow_zeros w 99 3 ty 37 i0 (.slice none 0 0) .i64 .i64 Tryz.underlying99 Tryz.underlying3 hi hz0 none 0 0 [] hold n hp (by omega) (by omega) (by omega) (by rw [hz2]; omega)
        (by rw [hz2]; simp only [Builtin.nextslicecap]; split <;> omega)
    have hGn : 0 + n ≤ grownCap w (0 + n) 0 37 := grownCap_ge w _ _ _
    have hGl := grownCap_le_maxLen w (0 + n) 0 37 (by unfold maxLen; omega)
    generalize grownCap w (0 + n) 0 37 = G at *
    obtain ⟨C, hC⟩ : ∃ C, C = (([] : List Value).toArray ++ Builtin.zeroCells (Value.slice none 0 0).cells n ++ Builtin.zeroCells (Value.slice none 0 0).cells (G - (0 + n))) := ⟨_, rfl⟩
    have hCs : C.size = G := by rw [hC]; simp [Builtin.zeroCells, Value.cells]; omega
    rw [← hC] at hrz
    clear hC hold hi hz0 hz1 hz2
    rw [Nat.zero_add] at hrz
    go_enter Tryz.func101, Tryz.ntmps101
    go_wp2_with (at_builtin; refine Lib.wpList_append_run _ rfl _ _ _ _ rfl _ _ rfl rfl _ _ (hrz _) ?_)
    go_ret
    refine ⟨_, rfl, ⟨?_, ((Ext.refl w).alloc _).drew⟩⟩
    exact (World.ownsRow_made (base := w.heap.size) (e := 37) (size := 1) w C G (Nat.le_refl _) hGl (by omega)).drew
/-- A list of lists, and where it lies. -/
structure LL3 where
  xs : List LE
  ao : Option Addr
  cap : Nat
def Lists3 (w : World) (ao : Option Addr) (ls : List LL3) : Prop :=
  ls ≠ [] → ∃ b off, ao = some ⟨b, off, none⟩ ∧ ∀ (i : Nat) l, ls[i]? = some l → w.cell? ⟨b, off + i, none⟩ = some (.slice l.ao l.xs.length l.cap) ∧ CellsL w l.ao l.xs
theorem Lists3.get {w : World} {ao : Option Addr} {ls : List LL3} (h : Lists3 w ao ls) {k : Nat} (hk : k < ls.length) :
    ∃ b off xs eo ec, ao = some ⟨b, off, none⟩ ∧ ls[k]? = some ⟨xs, eo, ec⟩ ∧ w.cell? ⟨b, off + k, none⟩ = some (.slice eo xs.length ec) ∧ CellsL w eo xs := by
  obtain ⟨b, off, rfl, hc⟩ := h (by intro e; subst e; simp at hk)
  have he : ls[k]? = some ls[k] := List.getElem?_eq_getElem hk
  exact ⟨b, off, ls[k].xs, ls[k].ao, ls[k].cap, rfl, he, hc k _ he⟩
theorem CellsL.ext {w w' : World} {ao : Option Addr} {ls : List LE} (h : CellsL w ao ls) (hx : Ext w w') : CellsL w' ao ls := fun hne => by
  obtain ⟨b, off, e, hc⟩ := h hne
  exact ⟨b, off, e, fun i l hl => hx.cell (hc i l hl)⟩
def cat3 (ls : List LL3) : List LE := ls.flatMap LL3.xs
theorem cat3_step {ls : List LL3} {k : Nat} {l : LL3} (h : ls[k]? = some l) : cat3 (ls.take (k + 1)) = cat3 (ls.take k) ++ l.xs := by
  rw [List.take_add_one, h]; simp [cat3]
theorem cat3_le (ls : List LL3) (k : Nat) : (cat3 (ls.take k)).length ≤ (cat3 ls).length := by
  have h : cat3 ls = cat3 (ls.take k) ++ cat3 (ls.drop k) := by unfold cat3; rw [← List.flatMap_append, List.take_append_drop]
  rw [h]; simp
set_option maxRecDepth 20000 in
set_option maxHeartbeats 2000000 in
theorem concat3_any (so : Option Addr) (sc : Nat) (ls : List LL3) (w : World) (hll : ls.length ≤ 100) (hl : (cat3 ls).length ≤ 1000) (hA : Lists3 w so ls) :
    Calls Tryz.prog 71 #[.slice so ls.length sc] w fun e w' => ∃ v, e = .returned v ∧ LLs w w' v (cat3 ls) := by
  go_enter Tryz.func71, Tryz.ntmps71
  go_wp2
  go_loop [3, 5, 11] (fun z _ i => ∃ k : Nat, k ≤ ls.length ∧ i = .int .i64 k ∧ z = .int .i64 ((cat3 (ls.take k)).length : Int)) (fun _ _ i => ls.length - (intOf i).toNat)
  case atStart => exact ⟨0, Nat.zero_le _, rfl, rfl⟩
  case round =>
    obtain ⟨k, hk, rfl, rfl⟩ := hrel
    have hcl := cat3_le ls k
    by_cases hlt : k < ls.length
    · obtain ⟨b, off, xs, eo, ec, rfl, he, h1, h2⟩ := hA.get hlt
      have hs := cat3_step he
      have hcl2 := cat3_le ls (k + 1)
      have hlen : (cat3 (ls.take (k + 1))).length = (cat3 (ls.take k)).length + xs.length := by rw [hs]; simp
      have HN : Hid (((cat3 (ls.take (k + 1))).length : Int) = ((cat3 (ls.take k)).length : Int) + (xs.length : Int)) := by unfold Hid; omega
      have HW : Hid (wrap64 (((cat3 (ls.take k)).length : Int) + (xs.length : Int)) = ((cat3 (ls.take k)).length : Int) + (xs.length : Int)) := by unfold Hid wrap64; omega
      have hw := HW.out
      have hpos : ¬ (((cat3 (ls.take k)).length : Int) + (xs.length : Int) < 0) := by omega
      clear he hA h2 hs hlen
      generalize (cat3 (ls.take k)).length = z at *
      go_wp2
      go_round
      case rel => exact ⟨k + 1, by omega, by go_num, by rw [HN.out]; exact congrArg (Value.int .i64) HW.out⟩
      case measure => simp [intOf]; omega
    · have hkn : ls.take k = ls := List.take_of_length_le (by omega)
      rw [hkn]
      have CG : Hid (Calls Tryz.prog 101 #[.slice none 0 0, .int .i64 ((cat3 ls).length : Int)] w fun e w' => ∃ v, e = .returned v ∧ LLs w w' v []) := growL_nil (cat3 ls).length w (by omega)
      clear hkn hcl
      go_wp2_with (go_at_call 101; refine CG.out.mono ?_; rintro e w1 ⟨v1, rfl, hI⟩)
      go_loopw [6, 8, 27] (fun v _ i wr => ∃ k : Nat, k ≤ ls.length ∧ i = .int .i64 k ∧ LLs w wr v (cat3 (ls.take k))) (fun _ _ i _ => ls.length - (intOf i).toNat)
      case atStart => exact ⟨0, Nat.zero_le _, rfl, hI⟩
      case round =>
        clear hI
        obtain ⟨k, hk, rfl, hI⟩ := hrel
        by_cases hlt : k < ls.length
        · obtain ⟨b, off, xs, eo, ec, rfl, he, h1, h2⟩ := hA.get hlt
          have HS : Hid (cat3 (ls.take (k + 1)) = cat3 (ls.take k) ++ xs) := cat3_step he
          have hcl2 := cat3_le ls (k + 1)
          have hlen : (cat3 (ls.take k)).length + xs.length ≤ 1000 := by rw [HS.out] at hcl2; simp at hcl2; omega
          have c1 := hI.ext.cell h1
          have c2 := h2.ext hI.ext
          clear he hA h1 h2 hcl2
          generalize cat3 (ls.take k) = z at *
          go_wp2_with (at_builtin; refine wpList_app_lists rfl _ _ rfl w _ z rfl hI eo ec xs rfl ?c1 ?c2 ?_)
          case c1 => exact c2
          case c2 => omega
          intro v2 w2 hI2 _ _
          clear hI c1 c2
          go_wp2
          go_roundw
          case rel => exact ⟨k + 1, by omega, by go_num, by rw [HS.out]; exact hI2⟩
          case measure => simp [intOf]; omega
        · have HE : Hid (cat3 ls = cat3 (ls.take k)) := by unfold Hid; rw [List.take_of_length_le (by omega)]
          clear hA
          go_wp2
          go_ret
          exact ⟨_, rfl, by rw [HE.out]; exact hI⟩
end Go.Proofs.YtjeinblcpejpnabGreatDoor
