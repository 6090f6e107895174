/- App EntApp TabD. -/
import Derived.Test.YtjeinblcpejpnabGreatDoorEntLJ
import Derived.Deep.Upon
import Derived.Laws.AppendOwn
import Derived.Deep.AppendLies
import Derived.Test.YtjeinblcpejpnabGreatDoorTabCJ

/- append(dst, src...) where dst is of the call's own making, and src whatever slice. -/
namespace Go.Proofs.YtjeinblcpejpnabGreatDoor
open Go.RowKit

theorem wpList_append_any {P : Program} {w : World} {ops : Array Oper} {rest : List Oper} {o : Oper} {a : Act} {Q : Exit → Act → World → Prop} (hgd : o.guard = none) (s x : Operand) (t : TypeId)
    (ho : o.op = .call { callee := .builtin .append, args := #[s, x], argTypes := #[t, t] })
    (base : Nat) (e : TypeId) (i : TypeInfo) (z : Value) (size bytes : Nat) (ht : P.underlying t = some (.slice e)) (hi : P.info? e = some i) (hz : i.zero = some z)
    (hsize : i.size = size) (hby : i.bytes = bytes) (hzs : z.cells.size = size) (hsz : 0 < size)
    (v : Value) (n : Nat) (xs : List Value) (hs : a.eval s = v) (hown : w.ownsRow base e size v n xs)
    (ao : Option Addr) (m c : Nat) (news : List Value) (hx : a.eval x = .slice ao m c) (hl : news.length = m * size) (hsrc : news ≠ [] → ∃ ad, ao = some ad ∧ ∀ j u, news[j]? = some u → w.cell? (ad.add j) = some u) (h1 : ∀ u ∈ news, u.oneCell' = true)
    (h63 : n + m ≤ maxLen) (hbytes : (n + m) * bytes ≤ 140737488355328) (hbase : base ≤ w.heap.size)
    (h : ∀ v' w', w'.ownsRow base e size v' (n + m) (xs ++ news) → w.grownBy w' v.ownBlock → wpList P ops Q rest (a.put o.dst v') w') : wpList P ops Q (o :: rest) a w := by
  cases ao with
  | some ad =>
    have hnews : ∀ j u, news[j]? = some u → w.cell? (ad.add j) = some u := by
      by_cases hn : news = []
      · subst hn; intro j u hj; simp at hj
      · obtain ⟨ad', hh, hc⟩ := hsrc hn
        cases hh; exact hc
    exact wpList_append_own w hgd s x t ho base e i z size bytes ht hi hz hsize hby hzs hsz v n xs hs hown ad m c news hx hl hnews h1 h63 hbytes hbase (fun v' w' p q _ => h v' w' p q)
  | none =>
    have hn : news = [] := by
      by_cases hn : news = []
      · exact hn
      · obtain ⟨ad', hh, hc⟩ := hsrc hn
        cases hh
    subst hn
    have hm : m = 0 := by
      rcases Nat.eq_zero_or_pos m with h0 | h0
      · exact h0
      · have := Nat.mul_pos h0 hsz; simp at hl; omega
    subst hm
    obtain ⟨bo, cap, hv, hle⟩ : ∃ bo cap, v = .slice bo n cap ∧ n ≤ cap := by
      rcases hown.2 with ⟨rfl, rfl⟩ | ⟨g, cap, cur, rfl, _, _, hle, _⟩
      · exact ⟨_, _, rfl, Nat.le_refl _⟩
      · exact ⟨_, _, rfl, hle⟩
    have hr := run_append_nothing (P := P) w t t o.type e i ht hi bo n cap hle (.slice none 0 c) (Src.ofNil w ht c)
    rw [← hv] at hr
    refine wpList_plain hgd fun _ hK => ?_
    unfold Oper.wp execOp
    simp only [ho, resolve, invoke, builtin, Sem.run_bind, Sem.run_pure, Result.andThen_ok, List.map_toArray, List.map_cons, List.map_nil, hs, hx, hr]
    exact hK _ _ (h v w (by simpa using hown) ⟨rfl, rfl, rfl, Nat.le_refl _, fun _ _ _ => rfl⟩)
end Go.Proofs.YtjeinblcpejpnabGreatDoor

/- append of entries to a list of the call's own making. -/
namespace Go.Proofs.YtjeinblcpejpnabGreatDoor
open Go.RowKit

/-- A list of entries that was made behind the world W0. -/
structure Lst (W0 w : World) (v : Value) (es : List Ent) : Prop where
  own : w.ownsRow W0.heap.size 49 3 v es.length (rowOf es)
  ext : Ext W0 w
theorem Lst.nil {W0 w : World} (h : Ext W0 w) : Lst W0 w (.slice none 0 0) [] := ⟨World.ownsRow_nil _ _ _ _, h⟩
theorem Lst.alloc {W0 w : World} {v : Value} {es : List Ent} (h : Lst W0 w v es) (o : Obj) : Lst W0 (w.alloc o) v es := ⟨h.own.alloc o, h.ext.alloc o⟩
theorem Lst.drew {W0 w : World} {v : Value} {es : List Ent} (h : Lst W0 w v es) : Lst W0 w.drew v es := ⟨h.own.drew, h.ext.drew⟩
theorem Lst.drewN {W0 w : World} {v : Value} {es : List Ent} (h : Lst W0 w v es) (n : Nat) : Lst W0 (w.drewN n) v es := ⟨h.own, h.ext.drewN n⟩
theorem Lst.at {W0 w : World} {v : Value} {es : List Ent} (h : Lst W0 w v es) : ∃ ao cap, v = .slice ao es.length cap ∧ EntsAt w ao es := ents_of_row h.own
theorem Lst.slice {W0 w : World} {v : Value} {es : List Ent} (h : Lst W0 w v es) : ∃ ao cap, v = .slice ao es.length cap := by
  obtain ⟨ao, cap, h, _⟩ := h.at; exact ⟨ao, cap, h⟩
theorem Lst.back {W0 W1 w : World} {v : Value} {es : List Ent} (h : Lst W1 w v es) (hx : Ext W0 W1) : Lst W0 w v es := by
  refine ⟨?_, hx.trans h.ext⟩
  obtain ⟨h1, h2⟩ := h.own
  refine ⟨h1, ?_⟩
  rcases h2 with h2 | ⟨g, cap, cur, a, b, c, d⟩
  · exact .inl h2
  · exact .inr ⟨g, cap, cur, a, Nat.le_trans hx.size b, c, d⟩

theorem snoc_cells (es : List Ent) (e : Ent) : rowOf (es ++ [e]) = rowOf es ++ entCells e := rowOf_snoc es e

theorem wpList_app_ent {w : World} {ops : Array Oper} {rest : List Oper} {o : Oper} {a : Act} {Q : Exit → Act → World → Prop} (hgd : o.guard = none) (s x : Operand)
    (ho : o.op = .call { callee := .builtin .append, args := #[s, x], argTypes := #[37, 37] })
    (W0 : World) (v : Value) (es : List Ent) (hs : a.eval s = v) (hl : Lst W0 w v es) (g : Nat) (key val : ByteArray) (gone : Bool) (hx : a.eval x = .slice (some ⟨g, 0, none⟩) 1 1)
    (hb : Blk w g #[.string key, .string val, .bool gone] 49) (hn : es.length ≤ 100000)
    (h : ∀ v' w', Lst W0 w' v' (es ++ [⟨key, val, gone⟩]) → wpList Tryz.prog ops Q rest (a.put o.dst v') w') : wpList Tryz.prog ops Q (o :: rest) a w := by
  obtain ⟨i0, hi, hz0, hz1, hz2⟩ := info_parts Tryz.info49
  refine wpList_append_own w hgd s x 37 ho W0.heap.size 49 i0 (.agg #[.string ⟨#[]⟩, .string ⟨#[]⟩, .bool false]) 3 40 Tryz.underlying37 hi hz0 hz1 hz2 rfl (by decide) v es.length (rowOf es) hs hl.own ⟨g, 0, none⟩ 1 1 [.string key, .string val, .bool gone] hx rfl ?_ ?_ ?_ ?_ hl.ext.size ?_
  · exact news_cells hb
  · intro u hu; simp only [List.mem_cons, List.not_mem_nil, or_false] at hu; rcases hu with rfl | rfl | rfl <;> rfl
  · unfold maxLen; omega
  · omega
  · intro v' w' p q _
    refine h v' w' ⟨?_, hl.ext.grown q (own_ge hl.own)⟩
    rw [rowOf_snoc, List.length_append]; exact p

theorem wpList_app_ents {w : World} {ops : Array Oper} {rest : List Oper} {o : Oper} {a : Act} {Q : Exit → Act → World → Prop} (hgd : o.guard = none) (s x : Operand)
    (ho : o.op = .call { callee := .builtin .append, args := #[s, x], argTypes := #[37, 37] })
    (W0 : World) (v : Value) (es : List Ent) (hs : a.eval s = v) (hl : Lst W0 w v es) (ao : Option Addr) (c : Nat) (fs : List Ent) (hx : a.eval x = .slice ao fs.length c)
    (hfs : EntsAt w ao fs) (hn : es.length + fs.length ≤ 100000)
    (h : ∀ v' w', Lst W0 w' v' (es ++ fs) → wpList Tryz.prog ops Q rest (a.put o.dst v') w') : wpList Tryz.prog ops Q (o :: rest) a w := by
  obtain ⟨i0, hi, hz0, hz1, hz2⟩ := info_parts Tryz.info49
  refine wpList_append_any hgd s x 37 ho W0.heap.size 49 i0 (.agg #[.string ⟨#[]⟩, .string ⟨#[]⟩, .bool false]) 3 40 Tryz.underlying37 hi hz0 hz1 hz2 rfl (by decide) v es.length (rowOf es) hs hl.own ao fs.length c (rowOf fs) hx (rowOf_length fs) hfs.row (rowOf_one fs) ?_ ?_ hl.ext.size ?_
  · unfold maxLen; omega
  · omega
  · intro v' w' p q
    refine h v' w' ⟨?_, hl.ext.grown q (own_ge hl.own)⟩
    rw [rowOf_app, List.length_append]; exact p

theorem step_app_ent {w : World} {ops : Array Oper} {o : Oper} {a : Act} {K : Act → World → Prop} {Q : Exit → Act → World → Prop} {E : Prop} (hgd : o.guard = none) (s x : Operand)
    (ho : o.op = .call { callee := .builtin .append, args := #[s, x], argTypes := #[37, 37] })
    (W0 : World) (v : Value) (es : List Ent) (hs : a.eval s = v) (hl : Lst W0 w v es) (g : Nat) (key val : ByteArray) (gone : Bool) (hx : a.eval x = .slice (some ⟨g, 0, none⟩) 1 1)
    (hb : Blk w g #[.string key, .string val, .bool gone] 49) (hn : es.length ≤ 100000)
    (h : ∀ g' cap' w', Lst W0 w' (.slice (some ⟨g', 0, none⟩) (es.length + 1) cap') (es ++ [⟨key, val, gone⟩]) → K (a.put o.dst (.slice (some ⟨g', 0, none⟩) (es.length + 1) cap')) w') :
    if Region.wanted o (yielded ops a.tmps) = true then Oper.wp Tryz.prog o a w K Q else E := by
  obtain ⟨i0, hi, hz0, hz1, hz2⟩ := info_parts Tryz.info49
  refine step_append_lies w hgd s x 37 ho W0.heap.size 49 i0 (.agg #[.string ⟨#[]⟩, .string ⟨#[]⟩, .bool false]) 3 40 Tryz.underlying37 hi hz0 hz1 hz2 rfl (by decide) v es.length (rowOf es) hs hl.own ⟨g, 0, none⟩ 1 1 [.string key, .string val, .bool gone] hx rfl ?_ ?_ (by decide) ?_ ?_ hl.ext.size w.heap.size rfl ?_
  · exact news_cells hb
  · intro u hu; simp only [List.mem_cons, List.not_mem_nil, or_false] at hu; rcases hu with rfl | rfl | rfl <;> rfl
  · unfold maxLen; omega
  · omega
  · intro g' cap' w' p q _ _
    refine h g' cap' w' ⟨?_, hl.ext.grown q (own_ge hl.own)⟩
    rw [rowOf_snoc, List.length_append]; exact p
end Go.Proofs.YtjeinblcpejpnabGreatDoor

/- Tables: All. -/
namespace Go.Proofs.YtjeinblcpejpnabGreatDoor
open Go.RowKit Go.WideShapes
attribute [local go_sem ↓] Go.wp_at_zero Go.wp_at_succ

theorem parseS_len : ∀ (n : Nat) (s : ByteArray) (es : List Ent), parseS n s = some es → es.length = n
  | 0, s, es, h => by
    unfold parseS at h
    split at h
    · simp at h; subst h; rfl
    · cases h
  | n + 1, s, es, h => by
    unfold parseS at h
    split at h
    · cases h
    · rename_i e m _
      rw [Option.map_eq_some_iff] at h
      obtain ⟨r, hr, rfl⟩ := h
      simp [parseS_len n _ r hr]
theorem entsT_len (s : ByteArray) : (entsT s).1.length ≤ 255 := by
  unfold entsT
  split
  · simp
  · rename_i es h
    unfold parseT at h
    split at h
    · cases h
    · have := parseS_len _ _ _ h
      have hb : byteAt s 0 < 256 := by unfold byteAt; exact UInt8.toNat_lt _
      simp only; omega
theorem pageE_len (M : CM) (b p : Int) : (pageE M b p).1.length ≤ 255 := by
  unfold pageE; split
  · exact entsT_len _
  · simp
/-- The entries of the last r pages, behind those that were read. -/
def goA (M : CM) (b : Int) : List Ent → Nat → List Ent × Int
  | acc, 0 => if tabF acc = 0 then (acc, 0) else ([], 4)
  | acc, r + 1 => if (pageE M b ((8 - (r + 1) : Nat) : Int)).2 = 5 then goA M b acc r else if ¬ (pageE M b ((8 - (r + 1) : Nat) : Int)).2 = 0 then ([], (pageE M b ((8 - (r + 1) : Nat) : Int)).2) else goA M b (acc ++ (pageE M b ((8 - (r + 1) : Nat) : Int)).1) r
theorem goA_succ (M : CM) (b : Int) (acc : List Ent) (r : Nat) : goA M b acc (r + 1) = if (pageE M b ((8 - (r + 1) : Nat) : Int)).2 = 5 then goA M b acc r else if ¬ (pageE M b ((8 - (r + 1) : Nat) : Int)).2 = 0 then ([], (pageE M b ((8 - (r + 1) : Nat) : Int)).2) else goA M b (acc ++ (pageE M b ((8 - (r + 1) : Nat) : Int)).1) r := rfl
/-- What All answers. -/
def allR (M : CM) (b : Int) : List Ent × Int := if ¬ (headR M b).2 = 0 then ([], (headR M b).2) else goA M b [] 7
def AllEnd (w w' : World) (e : Ending) (r : List Ent × Int) : Prop := ∃ ao c, e = .returned (.tuple #[.slice ao r.1.length c, errV r.2]) ∧ EntsAt w' ao r.1 ∧ Ext w w'
/-- As AllEnd, and there is room for what is there. -/
def AllEndC (w w' : World) (e : Ending) (r : List Ent × Int) : Prop := ∃ ao c, e = .returned (.tuple #[.slice ao r.1.length c, errV r.2]) ∧ EntsAt w' ao r.1 ∧ r.1.length ≤ c ∧ (∀ a, ao = some a → ∃ cs, Blk w' a.block cs 49) ∧ Ext w w'
theorem own_cap {w : World} {base : Nat} {e : TypeId} {size : Nat} {ao : Option Addr} {n c : Nat} {xs : List Value} (h : w.ownsRow base e size (.slice ao n c) n xs) : n ≤ c := by
  rcases h.2 with ⟨h1, h2⟩ | ⟨g, cap, cur, h1, _, _, h2, _⟩
  · omega
  · simp only [Value.slice.injEq] at h1
    omega
theorem own_blk {w : World} {base : Nat} {e : TypeId} {size : Nat} {ao : Option Addr} {n c : Nat} {xs : List Value} (h : w.ownsRow base e size (.slice ao n c) n xs) : ∀ a, ao = some a → ∃ cs, Blk w a.block cs e := fun a ha => by
  rcases h.2 with ⟨h1, h2⟩ | ⟨g, cap, cur, h1, _, hh, _⟩
  · simp only [Value.slice.injEq] at h1
    rw [h1.1] at ha; cases ha
  · simp only [Value.slice.injEq] at h1
    rw [h1.1] at ha; cases ha
    exact ⟨cur, ⟨hh⟩⟩
theorem eqErr (n m : Int) (W : World) : (binOp .eql 28 (.iface 88 (.int .i64 n)) (.iface 88 (.int .i64 m))).run Tryz.prog W = .ok (.bool (n == m)) W := by kernel_rfl
theorem eqNil (m : Int) (W : World) : (binOp .eql 28 .nilIface (.iface 88 (.int .i64 m))).run Tryz.prog W = .ok (.bool false) W := by kernel_rfl

theorem Lst.more {W0 w w' : World} {v : Value} {es : List Ent} (h : Lst W0 w v es) (hx : Ext w w') : Lst W0 w' v es := ⟨ownsRow_ext h.own hx, h.ext.trans hx⟩
set_option maxRecDepth 20000 in
set_option maxHeartbeats 2000000 in
theorem tabAllC_any (cb : Nat) (b : Int) (M : CM) (w : World) (h : ChipAt w cb M) :
    Calls Tryz.prog 82 #[.pointer (some ⟨cb, 0, none⟩), .int .i64 b] w fun e w' => AllEndC w w' e (allR M b) := by
  have HH := readHead_any cb b M w h
  by_cases hz : (headR M b).2 = 0
  · have HR : Hid (allR M b = goA M b [] 7) := by unfold allR Hid; rw [if_neg (by simp [hz])]
    have HHH : Hid (Calls Tryz.prog 104 #[.pointer (some ⟨cb, 0, none⟩), .int .i64 b] w fun e w' => e = .returned (.tuple #[.int .u64 ((headR M b).1 : Int), .nilIface]) ∧ Ext w w') := by
      unfold errV at HH; rw [if_pos hz] at HH; exact HH
    clear HH hz
    generalize (headR M b).1 = f at *
    rw [HR.out]
    have q1 := eqErr
    have q2 := eqNil
    go_enter Tryz.func82, Tryz.ntmps82
    go_wp2_with (go_at_call 104; refine HHH.out.mono ?_; rintro e w1 ⟨rfl, hx1⟩)
    go_loopw [8, 9] (fun v i wr => ∃ (r : Nat) (acc : List Ent), r ≤ 7 ∧ i = .int .i64 ((8 - r : Nat) : Int) ∧ acc.length ≤ 255 * (7 - r) ∧ goA M b [] 7 = goA M b acc r ∧ Lst w wr v acc) (fun _ i _ => 8 - (intOf i).toNat)
    case atStart => exact ⟨7, [], by omega, rfl, by simp, rfl, Lst.nil hx1⟩
    case round =>
      clear hx1
      obtain ⟨r, acc, hr, rfl, hlen, hgo, hL⟩ := hrel
      have hxr := hL.ext
      have hcr := h.ext hxr
      cases r with
      | zero =>
        obtain ⟨ao, cap, rfl, hE⟩ := hL.at
        have HCL : Hid (acc.length ≤ cap) := own_cap hL.own
        have HBK : Hid (∀ a, ao = some a → ∃ cs, Blk wr a.block cs 49) := own_blk hL.own
        have HK := tabCheck_any ao cap acc wr (by omega) hE
        by_cases hf : tabF acc = 0
        · have HG : Hid (goA M b [] 7 = (acc, 0)) := by rw [Hid, hgo, goA, if_pos hf]
          have HKK : Hid (Calls Tryz.prog 106 #[.slice ao acc.length cap] wr fun e w' => e = .returned .nilIface ∧ Ext wr w') := by
            unfold errV at HK; rw [if_pos hf] at HK; exact HK
          clear HK hf hgo hL
          go_wp2_with (go_at_call 106; refine HKK.out.mono ?_; rintro e w2 ⟨rfl, hx2⟩)
          go_ret2
          exact ⟨ao, cap, by rw [HG.out]; rfl, by rw [HG.out]; exact hE.ext hx2, by rw [HG.out]; exact HCL.out, fun a ha => (HBK.out a ha).imp fun _ h => h.ext hx2, hxr.trans hx2⟩
        · have HG : Hid (goA M b [] 7 = ([], 4)) := by rw [Hid, hgo, goA, if_neg hf]
          have HKK : Hid (Calls Tryz.prog 106 #[.slice ao acc.length cap] wr fun e w' => e = .returned (.iface 88 (.int .i64 (tabF acc))) ∧ Ext wr w') := by
            unfold errV at HK; rw [if_neg hf] at HK; exact HK
          clear HK hf hgo hL
          generalize tabF acc = tf at *
          go_wp2_with (go_at_call 106; refine HKK.out.mono ?_; rintro e w2 ⟨rfl, hx2⟩)
          go_ret2
          exact ⟨none, 0, by rw [HG.out]; rfl, by rw [HG.out]; exact fun h => absurd rfl h, by rw [HG.out]; exact Nat.le_refl _, fun a ha => (by cases ha), hxr.trans hx2⟩
      | succ r =>
        obtain ⟨vo, vc, hv⟩ := hL.slice
        subst hv
        have hpl := pageE_len M b ((8 - (r + 1) : Nat) : Int)
        have HE := readEnts_any cb b ((8 - (r + 1) : Nat) : Int) M wr hcr
        have hp8 : ((8 - (r + 1) : Nat) : Int) < 8 := by omega
        rw [goA_succ M b acc r] at hgo
        have hnx : ((8 - (r + 1) : Nat) : Int) + 1 = ((8 - r : Nat) : Int) := by omega
        generalize pageE M b ((8 - (r + 1) : Nat) : Int) = q at *
        obtain ⟨fs, n⟩ := q
        dsimp only at hgo HE hpl
        by_cases hn5 : n = 5
        · subst hn5
          rw [if_pos rfl] at hgo
          have HG : Hid (goA M b [] 7 = goA M b acc r) := hgo
          have HEE : Hid (Calls Tryz.prog 105 #[.pointer (some ⟨cb, 0, none⟩), .int .i64 b, .int .i64 ((8 - (r + 1) : Nat) : Int)] wr fun e w' => ∃ ao c, e = .returned (.tuple #[.slice ao fs.length c, .iface 88 (.int .i64 5)]) ∧ EntsAt w' ao fs ∧ Ext wr w') := HE
          have HL : Hid (Lst w wr (.slice vo acc.length vc) acc) := hL
          clear HE hgo hL
          generalize ((8 - (r + 1) : Nat) : Int) = p at *
          go_wp2_with (go_at_call 105; refine HEE.out.mono ?_; rintro e w2 ⟨ao, c, rfl, hE2, hx2⟩)
          go_roundw
          case rel => exact ⟨r, acc, by omega, by first | rfl | rw [hnx], by omega, HG.out, Lst.more HL.out hx2⟩
          case measure => simp [intOf]; omega
        · rw [if_neg hn5] at hgo
          by_cases hn0 : n = 0
          · subst hn0
            rw [if_neg (by simp)] at hgo
            have HG : Hid (goA M b [] 7 = goA M b (acc ++ fs) r) := hgo
            have HEE : Hid (Calls Tryz.prog 105 #[.pointer (some ⟨cb, 0, none⟩), .int .i64 b, .int .i64 ((8 - (r + 1) : Nat) : Int)] wr fun e w' => ∃ ao c, e = .returned (.tuple #[.slice ao fs.length c, .nilIface]) ∧ EntsAt w' ao fs ∧ Ext wr w') := HE
            have HL : Hid (Lst w wr (.slice vo acc.length vc) acc) := hL
            clear HE hgo hL hn5
            generalize ((8 - (r + 1) : Nat) : Int) = p at *
            go_wp2_with (first
              | (go_at_call 105; refine HEE.out.mono ?_; rintro e w2 ⟨ao, c, rfl, hE2, hx2⟩)
              | (at_builtin; refine wpList_app_ents rfl _ _ rfl w (.slice vo acc.length vc) acc rfl (Lst.more HL.out hx2) ao c fs rfl hE2 ?c1 ?_))
            case c1 => omega
            intro v2 w3 hL3
            go_wp2
            go_roundw
            case rel => exact ⟨r, acc ++ fs, by omega, by first | rfl | rw [hnx], by simp; omega, HG.out, hL3⟩
            case measure => simp [intOf]; omega
          · rw [if_pos hn0] at hgo
            have HG : Hid (goA M b [] 7 = ([], n)) := hgo
            have HV : Hid (errV n = .iface 88 (.int .i64 n)) := by unfold errV Hid; rw [if_neg hn0]
            have HEE : Hid (Calls Tryz.prog 105 #[.pointer (some ⟨cb, 0, none⟩), .int .i64 b, .int .i64 ((8 - (r + 1) : Nat) : Int)] wr fun e w' => ∃ ao c, e = .returned (.tuple #[.slice ao fs.length c, .iface 88 (.int .i64 n)]) ∧ EntsAt w' ao fs ∧ Ext wr w') := by
              rw [HV.out] at HE; exact HE
            have hb5 : (n == 5) = false := by rw [beq_eq_false_iff_ne]; exact hn5
            clear HE hgo hL
            generalize ((8 - (r + 1) : Nat) : Int) = p at *
            go_wp2_with (go_at_call 105; refine HEE.out.mono ?_; rintro e w2 ⟨ao, c, rfl, hE2, hx2⟩)
            go_ret2
            exact ⟨none, 0, by rw [HG.out, HV.out]; rfl, by rw [HG.out]; exact fun h => absurd rfl h, by rw [HG.out]; exact Nat.le_refl _, fun a ha => (by cases ha), hxr.trans hx2⟩
  · have HR : Hid (allR M b = ([], (headR M b).2)) := by unfold allR Hid; rw [if_pos hz]
    have HV : Hid (errV (headR M b).2 = .iface 88 (.int .i64 (headR M b).2)) := by unfold errV Hid; rw [if_neg hz]
    have HHH : Hid (Calls Tryz.prog 104 #[.pointer (some ⟨cb, 0, none⟩), .int .i64 b] w fun e w' => e = .returned (.tuple #[.int .u64 ((headR M b).1 : Int), .iface 88 (.int .i64 (headR M b).2)]) ∧ Ext w w') := by
      rw [HV.out] at HH; exact HH
    clear HH hz
    rw [HR.out]
    generalize (headR M b).1 = f at *
    generalize (headR M b).2 = n at *
    go_enter Tryz.func82, Tryz.ntmps82
    go_wp2_with (go_at_call 104; refine HHH.out.mono ?_; rintro e w1 ⟨rfl, hx1⟩)
    go_ret2
    exact ⟨none, 0, by rw [HV.out]; rfl, fun h => absurd rfl h, Nat.le_refl _, fun a ha => (by cases ha), hx1⟩
theorem tabAll_any (cb : Nat) (b : Int) (M : CM) (w : World) (h : ChipAt w cb M) :
    Calls Tryz.prog 82 #[.pointer (some ⟨cb, 0, none⟩), .int .i64 b] w fun e w' => AllEnd w w' e (allR M b) :=
  (tabAllC_any cb b M w h).mono fun _ _ ⟨ao, c, h1, h2, _, _, h3⟩ => ⟨ao, c, h1, h2, h3⟩
end Go.Proofs.YtjeinblcpejpnabGreatDoor
