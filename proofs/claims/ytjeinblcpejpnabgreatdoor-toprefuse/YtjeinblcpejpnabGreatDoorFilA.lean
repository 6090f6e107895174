/- EntApp TabD FilM FilA. -/
import Derived.Test.YtjeinblcpejpnabGreatDoorActA
import Derived.Test.YtjeinblcpejpnabGreatDoorApp
import Derived.Deep.AppendLies
import Derived.Test.YtjeinblcpejpnabGreatDoorRows
import Derived.WalkKit
import Derived.Laws.BitsAllLaws
import Derived.WalkSpells
import Derived.WalkLawsBesides
import Derived.Deep.QuietTactic
import Derived.BigQuiet

/- append of entries to a list of the call's own making. -/
namespace Go.Proofs.YtjeinblcpejpnabGreatDoor
open Go.RowKit

/-- A list of entries that was made behind the world W0. -/
structure Lst (W0 w : World) (v : Value) (es : List Ent) : Prop where
  own : w.ownsRow W0.heap.size 49 3 v es.length (rowOf es)
  ext : Ext W0 w
theorem Lst.nil {W0 w : World} (h : Ext W0 w) : Lst W0 w (.slice none 0 0) [] := ⟨World.ownsRow_nil _ _ _ _, h⟩
theorem Lst.alloc {W0 w : World} {v : Value} {es : List Ent} (h : Lst W0 w v es) (o : Obj) : Lst W0 (w.alloc o) v es := ⟨h.own.alloc o, h.ext.alloc o⟩
theorem Lst.drew {W0 w : World} {v : Value} {es : List Ent} (h : Lst W0 w v es) : Lst W0 w.drew v es := ⟨h.own.drew, h.ext.drew⟩
theorem Lst.drewN {W0 w : World} {v : Value} {es : List Ent} (h : Lst W0 w v es) (n : Nat) : Lst W0 (w.drewN n) v es := ⟨h.own, h.ext.drewN n⟩
theorem Lst.at {W0 w : World} {v : Value} {es : List Ent} (h : Lst W0 w v es) : ∃ ao cap, v = .slice ao es.length cap ∧ EntsAt w ao es := ents_of_row h.own
theorem Lst.slice {W0 w : World} {v : Value} {es : List Ent} (h : Lst W0 w v es) : ∃ ao cap, v = .slice ao es.length cap := by
  obtain ⟨ao, cap, h, _⟩ := h.at; exact ⟨ao, cap, h⟩
theorem Lst.back {W0 W1 w : World} {v : Value} {es : List Ent} (h : Lst W1 w v es) (hx : Ext W0 W1) : Lst W0 w v es := by
  refine ⟨?_, hx.trans h.ext⟩
  obtain ⟨h1, h2⟩ := h.own
  refine ⟨h1, ?_⟩
  rcases h2 with h2 | ⟨g, cap, cur, a, b, c, d⟩
  · exact .inl h2
  · exact .inr ⟨g, cap, cur, a, Nat.le_trans hx.size b, c, d⟩

theorem snoc_cells (es : List Ent) (e : Ent) : rowOf (es ++ [e]) = rowOf es ++ entCells e := rowOf_snoc es e

theorem wpList_app_ent {w : World} {ops : Array Oper} {rest : List Oper} {o : Oper} {a : Act} {Q : Exit → Act → World → Prop} (hgd : o.guard = none) (s x : Operand)
    (ho : o.op = .call { callee := .builtin .append, args := #[s, x], argTypes := #[37, 37] })
    (W0 : World) (v : Value) (es : List Ent) (hs : a.eval s = v) (hl : Lst W0 w v es) (g : Nat) (key val : ByteArray) (gone : Bool) (hx : a.eval x = .slice (some ⟨g, 0, none⟩) 1 1)
    (hb : Blk w g #[.string key, .string val, .bool gone] 49) (hn : es.length ≤ 100000)
    (h : ∀ v' w', Lst W0 w' v' (es ++ [⟨key, val, gone⟩]) → wpList Tryz.prog ops Q rest (a.put o.dst v') w') : wpList Tryz.prog ops Q (o :: rest) a w := by
  obtain ⟨i0, hi, hz0, hz1, hz2⟩ := info_parts Tryz.info49
  refine wpList_append_own w hgd s x 37 ho W0.heap.size 49 i0 (.agg #[.string ⟨#[]⟩, .string ⟨#[]⟩, .bool false]) 3 40 Tryz.underlying37 hi hz0 hz1 hz2 rfl (by decide) v es.length (rowOf es) hs hl.own ⟨g, 0, none⟩ 1 1 [.string key, .string val, .bool gone] hx rfl ?_ ?_ ?_ ?_ hl.ext.size ?_
  · exact news_cells hb
  · intro u hu; simp only [List.mem_cons, List.not_mem_nil, or_false] at hu; rcases hu with rfl | rfl | rfl <;> rfl
  · unfold maxLen; omega
  · omega
  · intro v' w' p q _
    refine h v' w' ⟨?_, hl.ext.grown q (own_ge hl.own)⟩
    rw [rowOf_snoc, List.length_append]; exact p

theorem wpList_app_ents {w : World} {ops : Array Oper} {rest : List Oper} {o : Oper} {a : Act} {Q : Exit → Act → World → Prop} (hgd : o.guard = none) (s x : Operand)
    (ho : o.op = .call { callee := .builtin .append, args := #[s, x], argTypes := #[37, 37] })
    (W0 : World) (v : Value) (es : List Ent) (hs : a.eval s = v) (hl : Lst W0 w v es) (ao : Option Addr) (c : Nat) (fs : List Ent) (hx : a.eval x = .slice ao fs.length c)
    (hfs : EntsAt w ao fs) (hn : es.length + fs.length ≤ 100000)
    (h : ∀ v' w', Lst W0 w' v' (es ++ fs) → wpList Tryz.prog ops Q rest (a.put o.dst v') w') : wpList Tryz.prog ops Q (o :: rest) a w := by
  obtain ⟨i0, hi, hz0, hz1, hz2⟩ := info_parts Tryz.info49
  refine wpList_append_any hgd s x 37 ho W0.heap.size 49 i0 (.agg #[.string ⟨#[]⟩, .string ⟨#[]⟩, .bool false]) 3 40 Tryz.underlying37 hi hz0 hz1 hz2 rfl (by decide) v es.length (rowOf es) hs hl.own ao fs.length c (rowOf fs) hx (rowOf_length fs) hfs.row (rowOf_one fs) ?_ ?_ hl.ext.size ?_
  · unfold maxLen; omega
  · omega
  · intro v' w' p q
    refine h v' w' ⟨?_, hl.ext.grown q (own_ge hl.own)⟩
    rw [rowOf_app, List.length_append]; exact p

theorem step_app_ent {w : World} {ops : Array Oper} {o : Oper} {a : Act} {K : Act → World → Prop} {Q : Exit → Act → World → Prop} {E : Prop} (hgd : o.guard = none) (s x : Operand)
    (ho : o.op = .call { callee := .builtin .append, args := #[s, x], argTypes := #[37, 37] })
    (W0 : World) (v : Value) (es : List Ent) (hs : a.eval s = v) (hl : Lst W0 w v es) (g : Nat) (key val : ByteArray) (gone : Bool) (hx : a.eval x = .slice (some ⟨g, 0, none⟩) 1 1)
    (hb : Blk w g #[.string key, .string val, .bool gone] 49) (hn : es.length ≤ 100000)
    (h : ∀ g' cap' w', Lst W0 w' (.slice (some ⟨g', 0, none⟩) (es.length + 1) cap') (es ++ [⟨key, val, gone⟩]) → K (a.put o.dst (.slice (some ⟨g', 0, none⟩) (es.length + 1) cap')) w') :
    if Region.wanted o (yielded ops a.tmps) = true then Oper.wp Tryz.prog o a w K Q else E := by
  obtain ⟨i0, hi, hz0, hz1, hz2⟩ := info_parts Tryz.info49
  refine step_append_lies w hgd s x 37 ho W0.heap.size 49 i0 (.agg #[.string ⟨#[]⟩, .string ⟨#[]⟩, .bool false]) 3 40 Tryz.underlying37 hi hz0 hz1 hz2 rfl (by decide) v es.length (rowOf es) hs hl.own ⟨g, 0, none⟩ 1 1 [.string key, .string val, .bool gone] hx rfl ?_ ?_ (by decide) ?_ ?_ hl.ext.size w.heap.size rfl ?_
  · exact news_cells hb
  · intro u hu; simp only [List.mem_cons, List.not_mem_nil, or_false] at hu; rcases hu with rfl | rfl | rfl <;> rfl
  · unfold maxLen; omega
  · omega
  · intro g' cap' w' p q _ _
    refine h g' cap' w' ⟨?_, hl.ext.grown q (own_ge hl.own)⟩
    rw [rowOf_snoc, List.length_append]; exact p
end Go.Proofs.YtjeinblcpejpnabGreatDoor

/- Tables: All. -/
namespace Go.Proofs.YtjeinblcpejpnabGreatDoor
open Go.RowKit Go.WideShapes
attribute [local go_sem ↓] Go.wp_at_zero Go.wp_at_succ

theorem parseS_len : ∀ (n : Nat) (s : ByteArray) (es : List Ent), parseS n s = some es → es.length = n
  | 0, s, es, h => by
    unfold parseS at h
    split at h
    · simp at h; subst h; rfl
    · cases h
  | n + 1, s, es, h => by
    unfold parseS at h
    split at h
    · cases h
    · rename_i e m _
      rw [Option.map_eq_some_iff] at h
      obtain ⟨r, hr, rfl⟩ := h
      simp [parseS_len n _ r hr]
theorem entsT_len (s : ByteArray) : (entsT s).1.length ≤ 255 := by
  unfold entsT
  split
  · simp
  · rename_i es h
    unfold parseT at h
    split at h
    · cases h
    · have := parseS_len _ _ _ h
      have hb : byteAt s 0 < 256 := by unfold byteAt; exact UInt8.toNat_lt _
      simp only; omega
theorem pageE_len (M : CM) (b p : Int) : (pageE M b p).1.length ≤ 255 := by
  unfold pageE; split
  · exact entsT_len _
  · simp
/-- The entries of the last r pages, behind those that were read. -/
def goA (M : CM) (b : Int) : List Ent → Nat → List Ent × Int
  | acc, 0 => if tabF acc = 0 then (acc, 0) else ([], 4)
  | acc, r + 1 => if (pageE M b ((8 - (r + 1) : Nat) : Int)).2 = 5 then goA M b acc r else if ¬ (pageE M b ((8 - (r + 1) : Nat) : Int)).2 = 0 then ([], (pageE M b ((8 - (r + 1) : Nat) : Int)).2) else goA M b (acc ++ (pageE M b ((8 - (r + 1) : Nat) : Int)).1) r
theorem goA_succ (M : CM) (b : Int) (acc : List Ent) (r : Nat) : goA M b acc (r + 1) = if (pageE M b ((8 - (r + 1) : Nat) : Int)).2 = 5 then goA M b acc r else if ¬ (pageE M b ((8 - (r + 1) : Nat) : Int)).2 = 0 then ([], (pageE M b ((8 - (r + 1) : Nat) : Int)).2) else goA M b (acc ++ (pageE M b ((8 - (r + 1) : Nat) : Int)).1) r := rfl
/-- What All answers. -/
def allR (M : CM) (b : Int) : List Ent × Int := if ¬ (headR M b).2 = 0 then ([], (headR M b).2) else goA M b [] 7
def AllEnd (w w' : World) (e : Ending) (r : List Ent × Int) : Prop := ∃ ao c, e = .returned (.tuple #[.slice ao r.1.length c, errV r.2]) ∧ EntsAt w' ao r.1 ∧ Ext w w'
/-- As AllEnd, and there is room for what is there. -/
def AllEndC (w w' : World) (e : Ending) (r : List Ent × Int) : Prop := ∃ ao c, e = .returned (.tuple #[.slice ao r.1.length c, errV r.2]) ∧ EntsAt w' ao r.1 ∧ r.1.length ≤ c ∧ (∀ a, ao = some a → ∃ cs, Blk w' a.block cs 49) ∧ Ext w w'
theorem own_cap {w : World} {base : Nat} {e : TypeId} {size : Nat} {ao : Option Addr} {n c : Nat} {xs : List Value} (h : w.ownsRow base e size (.slice ao n c) n xs) : n ≤ c := by
  rcases h.2 with ⟨h1, h2⟩ | ⟨g, cap, cur, h1, _, _, h2, _⟩
  · omega
  · simp only [Value.slice.injEq] at h1
    omega
theorem own_blk {w : World} {base : Nat} {e : TypeId} {size : Nat} {ao : Option Addr} {n c : Nat} {xs : List Value} (h : w.ownsRow base e size (.slice ao n c) n xs) : ∀ a, ao = some a → ∃ cs, Blk w a.block cs e := fun a ha => by
  rcases h.2 with ⟨h1, h2⟩ | ⟨g, cap, cur, h1, _, hh, _⟩
  · simp only [Value.slice.injEq] at h1
    rw [h1.1] at ha; cases ha
  · simp only [Value.slice.injEq] at h1
    rw [h1.1] at ha; cases ha
    exact ⟨cur, ⟨hh⟩⟩
theorem eqErr (n m : Int) (W : World) : (binOp .eql 28 (.iface 88 (.int .i64 n)) (.iface 88 (.int .i64 m))).run Tryz.prog W = .ok (.bool (n == m)) W := by kernel_rfl
theorem eqNil (m : Int) (W : World) : (binOp .eql 28 .nilIface (.iface 88 (.int .i64 m))).run Tryz.prog W = .ok (.bool false) W := by kernel_rfl

theorem Lst.more {W0 w w' : World} {v : Value} {es : List Ent} (h : Lst W0 w v es) (hx : Ext w w') : Lst W0 w' v es := ⟨ownsRow_ext h.own hx, h.ext.trans hx⟩
set_option maxRecDepth 20000 in
set_option maxHeartbeats 2000000 in
theorem tabAllC_any (cb : Nat) (b : Int) (M : CM) (w : World) (h : ChipAt w cb M) :
    Calls Tryz.prog 82 #[.pointer (some ⟨cb, 0, none⟩), .int .i64 b] w fun e w' => AllEndC w w' e (allR M b) := by
  have HH := readHead_any cb b M w h
  by_cases hz : (headR M b).2 = 0
  · have HR : Hid (allR M b = goA M b [] 7) := by unfold allR Hid; rw [if_neg (by simp [hz])]
    have HHH : Hid (Calls Tryz.prog 104 #[.pointer (some ⟨cb, 0, none⟩), .int .i64 b] w fun e w' => e = .returned (.tuple #[.int .u64 ((headR M b).1 : Int), .nilIface]) ∧ Ext w w') := by
      unfold errV at HH; rw [if_pos hz] at HH; exact HH
    clear HH hz
    generalize (headR M b).1 = f at *
    rw [HR.out]
    have q1 := eqErr
    have q2 := eqNil
    go_enter Tryz.func82, Tryz.ntmps82
    go_wp2_with (go_at_call 104; refine HHH.out.mono ?_; rintro e w1 ⟨rfl, hx1⟩)
    go_loopw [8, 9] (fun v i wr => ∃ (r : Nat) (acc : List Ent), r ≤ 7 ∧ i = .int .i64 ((8 - r : Nat) : Int) ∧ acc.length ≤ 255 * (7 - r) ∧ goA M b [] 7 = goA M b acc r ∧ Lst w wr v acc) (fun _ i _ => 8 - (intOf i).toNat)
    case atStart => exact ⟨7, [], by omega, rfl, by simp, rfl, Lst.nil hx1⟩
    case round =>
      clear hx1
      obtain ⟨r, acc, hr, rfl, hlen, hgo, hL⟩ := hrel
      have hxr := hL.ext
      have hcr := h.ext hxr
      cases r with
      | zero =>
        obtain ⟨ao, cap, rfl, hE⟩ := hL.at
        have HCL : Hid (acc.length ≤ cap) := own_cap hL.own
        have HBK : Hid (∀ a, ao = some a → ∃ cs, Blk wr a.block cs 49) := own_blk hL.own
        have HK := tabCheck_any ao cap acc wr (by omega) hE
        by_cases hf : tabF acc = 0
        · have HG : Hid (goA M b [] 7 = (acc, 0)) := by rw [Hid, hgo, goA, if_pos hf]
          have HKK : Hid (Calls Tryz.prog 106 #[.slice ao acc.length cap] wr fun e w' => e = .returned .nilIface ∧ Ext wr w') := by
            unfold errV at HK; rw [if_pos hf] at HK; exact HK
          clear HK hf hgo hL
          go_wp2_with (go_at_call 106; refine HKK.out.mono ?_; rintro e w2 ⟨rfl, hx2⟩)
          go_ret2
          exact ⟨ao, cap, by rw [HG.out]; rfl, by rw [HG.out]; exact hE.ext hx2, by rw [HG.out]; exact HCL.out, fun a ha => (HBK.out a ha).imp fun _ h => h.ext hx2, hxr.trans hx2⟩
        · have HG : Hid (goA M b [] 7 = ([], 4)) := by rw [Hid, hgo, goA, if_neg hf]
          have HKK : Hid (Calls Tryz.prog 106 #[.slice ao acc.length cap] wr fun e w' => e = .returned (.iface 88 (.int .i64 (tabF acc))) ∧ Ext wr w') := by
            unfold errV at HK; rw [if_neg hf] at HK; exact HK
          clear HK hf hgo hL
          generalize tabF acc = tf at *
          go_wp2_with (go_at_call 106; refine HKK.out.mono ?_; rintro e w2 ⟨rfl, hx2⟩)
          go_ret2
          exact ⟨none, 0, by rw [HG.out]; rfl, by rw [HG.out]; exact fun h => absurd rfl h, by rw [HG.out]; exact Nat.le_refl _, fun a ha => (by cases ha), hxr.trans hx2⟩
      | succ r =>
        obtain ⟨vo, vc, hv⟩ := hL.slice
        subst hv
        have hpl := pageE_len M b ((8 - (r + 1) : Nat) : Int)
        have HE := readEnts_any cb b ((8 - (r + 1) : Nat) : Int) M wr hcr
        have hp8 : ((8 - (r + 1) : Nat) : Int) < 8 := by omega
        rw [goA_succ M b acc r] at hgo
        have hnx : ((8 - (r + 1) : Nat) : Int) + 1 = ((8 - r : Nat) : Int) := by omega
        generalize pageE M b ((8 - (r + 1) : Nat) : Int) = q at *
        obtain ⟨fs, n⟩ := q
        dsimp only at hgo HE hpl
        by_cases hn5 : n = 5
        · subst hn5
          rw [if_pos rfl] at hgo
          have HG : Hid (goA M b [] 7 = goA M b acc r) := hgo
          have HEE : Hid (Calls Tryz.prog 105 #[.pointer (some ⟨cb, 0, none⟩), .int .i64 b, .int .i64 ((8 - (r + 1) : Nat) : Int)] wr fun e w' => ∃ ao c, e = .returned (.tuple #[.slice ao fs.length c, .iface 88 (.int .i64 5)]) ∧ EntsAt w' ao fs ∧ Ext wr w') := HE
          have HL : Hid (Lst w wr (.slice vo acc.length vc) acc) := hL
          clear HE hgo hL
          generalize ((8 - (r + 1) : Nat) : Int) = p at *
          go_wp2_with (go_at_call 105; refine HEE.out.mono ?_; rintro e w2 ⟨ao, c, rfl, hE2, hx2⟩)
          go_roundw
          case rel => exact ⟨r, acc, by omega, by first | rfl | rw [hnx], by omega, HG.out, Lst.more HL.out hx2⟩
          case measure => simp [intOf]; omega
        · rw [if_neg hn5] at hgo
          by_cases hn0 : n = 0
          · subst hn0
            rw [if_neg (by simp)] at hgo
            have HG : Hid (goA M b [] 7 = goA M b (acc ++ fs) r) := hgo
            have HEE : Hid (Calls Tryz.prog 105 #[.pointer (some ⟨cb, 0, none⟩), .int .i64 b, .int .i64 ((8 - (r + 1) : Nat) : Int)] wr fun e w' => ∃ ao c, e = .returned (.tuple #[.slice ao fs.length c, .nilIface]) ∧ EntsAt w' ao fs ∧ Ext wr w') := HE
            have HL : Hid (Lst w wr (.slice vo acc.length vc) acc) := hL
            clear HE hgo hL hn5
            generalize ((8 - (r + 1) : Nat) : Int) = p at *
            go_wp2_with (first
              | (go_at_call 105; refine HEE.out.mono ?_; rintro e w2 ⟨ao, c, rfl, hE2, hx2⟩)
              | (at_builtin; refine wpList_app_ents rfl _ _ rfl w (.slice vo acc.length vc) acc rfl (Lst.more HL.out hx2) ao c fs rfl hE2 ?c1 ?_))
            case c1 => omega
            intro v2 w3 hL3
            go_wp2
            go_roundw
            case rel => exact ⟨r, acc ++ fs, by omega, by first | rfl | rw [hnx], by simp; omega, HG.out, hL3⟩
            case measure => simp [intOf]; omega
          · rw [if_pos hn0] at hgo
            have HG : Hid (goA M b [] 7 = ([], n)) := hgo
            have HV : Hid (errV n = .iface 88 (.int .i64 n)) := by unfold errV Hid; rw [if_neg hn0]
            have HEE : Hid (Calls Tryz.prog 105 #[.pointer (some ⟨cb, 0, none⟩), .int .i64 b, .int .i64 ((8 - (r + 1) : Nat) : Int)] wr fun e w' => ∃ ao c, e = .returned (.tuple #[.slice ao fs.length c, .iface 88 (.int .i64 n)]) ∧ EntsAt w' ao fs ∧ Ext wr w') := by
              rw [HV.out] at HE; exact HE
            have hb5 : (n == 5) = false := by rw [beq_eq_false_iff_ne]; exact hn5
            clear HE hgo hL
            generalize ((8 - (r + 1) : Nat) : Int) = p at *
            go_wp2_with (go_at_call 105; refine HEE.out.mono ?_; rintro e w2 ⟨ao, c, rfl, hE2, hx2⟩)
            go_ret2
            exact ⟨none, 0, by rw [HG.out, HV.out]; rfl, by rw [HG.out]; exact fun h => absurd rfl h, by rw [HG.out]; exact Nat.le_refl _, fun a ha => (by cases ha), hxr.trans hx2⟩
  · have HR : Hid (allR M b = ([], (headR M b).2)) := by unfold allR Hid; rw [if_pos hz]
    have HV : Hid (errV (headR M b).2 = .iface 88 (.int .i64 (headR M b).2)) := by unfold errV Hid; rw [if_neg hz]
    have HHH : Hid (Calls Tryz.prog 104 #[.pointer (some ⟨cb, 0, none⟩), .int .i64 b] w fun e w' => e = .returned (.tuple #[.int .u64 ((headR M b).1 : Int), .iface 88 (.int .i64 (headR M b).2)]) ∧ Ext w w') := by
      rw [HV.out] at HH; exact HH
    clear HH hz
    rw [HR.out]
    generalize (headR M b).1 = f at *
    generalize (headR M b).2 = n at *
    go_enter Tryz.func82, Tryz.ntmps82
    go_wp2_with (go_at_call 104; refine HHH.out.mono ?_; rintro e w1 ⟨rfl, hx1⟩)
    go_ret2
    exact ⟨none, 0, by rw [HV.out]; rfl, fun h => absurd rfl h, Nat.le_refl _, fun a ha => (by cases ha), hx1⟩
theorem tabAll_any (cb : Nat) (b : Int) (M : CM) (w : World) (h : ChipAt w cb M) :
    Calls Tryz.prog 82 #[.pointer (some ⟨cb, 0, none⟩), .int .i64 b] w fun e w' => AllEnd w w' e (allR M b) :=
  (tabAllC_any cb b M w h).mono fun _ _ ⟨ao, c, h1, h2, _, _, h3⟩ => ⟨ao, c, h1, h2, h3⟩
end Go.Proofs.YtjeinblcpejpnabGreatDoor

/- Filters: bits of a number. -/
namespace Go.Proofs.YtjeinblcpejpnabGreatDoor
open Go.RowKit
def spotA (l : List UInt8) : Nat := l.foldl (fun a c => (31 * a + c.toNat) % 10007) 7
def spotB (l : List UInt8) : Nat := l.foldl (fun b c => (17 * b + c.toNat + 5) % 7919) 3
theorem foldl_lt (f : Nat → UInt8 → Nat) (m : Nat) (hf : ∀ a c, f a c < m) (l : List UInt8) (a : Nat) (h : a < m) : l.foldl f a < m := by
  induction l generalizing a with
  | nil => exact h
  | cons x r ih => exact ih _ (hf _ _)
theorem spotA_lt (l : List UInt8) : spotA l < 10007 := foldl_lt _ _ (fun _ _ => Nat.mod_lt _ (by omega)) _ _ (by omega)
theorem spotB_lt (l : List UInt8) : spotB l < 7919 := foldl_lt _ _ (fun _ _ => Nat.mod_lt _ (by omega)) _ _ (by omega)
def maskN (l : List UInt8) : Nat := 2 ^ (spotA l % 64) ||| 2 ^ (spotB l % 64)
theorem maskN_lt (l : List UInt8) : maskN l < 2 ^ 64 :=
  Nat.or_lt_two_pow (Nat.pow_lt_pow_right (by omega) (Nat.mod_lt _ (by omega))) (Nat.pow_lt_pow_right (by omega) (Nat.mod_lt _ (by omega)))
def filterN (ks : List ByteArray) : Nat := ks.foldl (fun f k => f ||| maskN k.data.toList) 0
theorem filterN_snoc (ks : List ByteArray) (k : ByteArray) : filterN (ks ++ [k]) = filterN ks ||| maskN k.data.toList := by simp [filterN]
theorem filterN_lt (ks : List ByteArray) : filterN ks < 2 ^ 64 := by
  unfold filterN
  suffices ∀ f : Nat, f < 2 ^ 64 → ks.foldl (fun f k => f ||| maskN k.data.toList) f < 2 ^ 64 from this 0 (by omega)
  intro f hf
  induction ks generalizing f with
  | nil => exact hf
  | cons x r ih => exact ih _ (Nat.or_lt_two_pow hf (maskN_lt _))
def mayN (f : Nat) (l : List UInt8) : Bool := f.testBit (spotA l % 64) && f.testBit (spotB l % 64)
theorem mayN_mask (f : Nat) (l : List UInt8) : ((f &&& maskN l) == maskN l) = mayN f l := by
  rw [Bool.eq_iff_iff]
  unfold mayN maskN
  simp only [beq_iff_eq, Bool.and_eq_true]
  generalize spotA l % 64 = a
  generalize spotB l % 64 = b
  constructor
  · intro h
    have ha : (f &&& (2 ^ a ||| 2 ^ b)).testBit a = true := by rw [h]; simp [Nat.testBit_two_pow]
    have hb : (f &&& (2 ^ a ||| 2 ^ b)).testBit b = true := by rw [h]; simp [Nat.testBit_two_pow]
    simp at ha hb
    exact ⟨ha, hb⟩
  · rintro ⟨ha, hb⟩
    apply Nat.eq_of_testBit_eq
    intro i
    simp only [Nat.testBit_and, Nat.testBit_or, Nat.testBit_two_pow]
    by_cases h1 : a = i
    · subst h1; simp [ha]
    · by_cases h2 : b = i
      · subst h2; simp [hb]
      · simp [h1, h2]
theorem mayN_or (f g : Nat) (l : List UInt8) (h : mayN f l = true) : mayN (f ||| g) l = true := by
  unfold mayN at *; simp only [Bool.and_eq_true, Nat.testBit_or, Bool.or_eq_true] at *; exact ⟨.inl h.1, .inl h.2⟩
theorem mayN_or' (f g : Nat) (l : List UInt8) (h : mayN g l = true) : mayN (f ||| g) l = true := by rw [Nat.or_comm]; exact mayN_or g f l h
theorem mayN_self (l : List UInt8) : mayN (maskN l) l = true := by
  rw [← mayN_mask, Nat.and_self]; simp
theorem fold_or (ks : List ByteArray) (f : Nat) : ks.foldl (fun f k => f ||| maskN k.data.toList) f = f ||| filterN ks := by
  induction ks generalizing f with
  | nil => simp [filterN]
  | cons x r ih =>
    have e : filterN (x :: r) = maskN x.data.toList ||| filterN r := by unfold filterN; rw [List.foldl_cons, Nat.zero_or]; exact ih _
    rw [List.foldl_cons, ih, e, Nat.or_assoc]
theorem filterN_app (ks ms : List ByteArray) : filterN (ks ++ ms) = filterN ks ||| filterN ms := by
  unfold filterN; rw [List.foldl_append]; exact fold_or ms _
theorem mayN_mem (ks : List ByteArray) (k : ByteArray) (h : k ∈ ks) : mayN (filterN ks) k.data.toList = true := by
  obtain ⟨a, b, rfl⟩ := List.append_of_mem h
  rw [filterN_app]
  apply mayN_or'
  rw [show k :: b = [k] ++ b from rfl, filterN_app]
  apply mayN_or
  show mayN (0 ||| maskN _) _ = true
  rw [Nat.zero_or]; exact mayN_self _
theorem testBit_div (f a : Nat) : f.testBit a = decide (f / 2 ^ a % 2 = 1) := by
  rw [Nat.testBit_eq_decide_div_mod_eq]
end Go.Proofs.YtjeinblcpejpnabGreatDoor

/- Filters: what spots, May, Of, and the document's answers, say. -/
namespace Go.Proofs.YtjeinblcpejpnabGreatDoor
open Go.RowKit

theorem w64_in (n : Int) (h : -9223372036854775808 ≤ n ∧ n ≤ 9223372036854775807) : wrap64 n = n := by unfold wrap64; omega
theorem take_byte (s : ByteArray) (k : Nat) (h : k < s.size) : s.data.toList.take (k + 1) = s.data.toList.take k ++ [s[k]] := by
  rw [List.take_add_one, List.getElem?_eq_getElem (by simpa using h)]; rfl
theorem spotA_step (s : ByteArray) (k : Nat) (h : k < s.size) : (wrap64 (31 * (spotA (s.data.toList.take k) : Int) + wrap64 (s[k].toNat : Int))).tmod 10007 = (spotA (s.data.toList.take (k + 1)) : Int) := by
  have hA := spotA_lt (s.data.toList.take k)
  have hc := s[k].toNat_lt
  have e : spotA (s.data.toList.take (k + 1)) = (31 * spotA (s.data.toList.take k) + s[k].toNat) % 10007 := by rw [take_byte s k h]; simp [spotA]
  rw [e, w64_in (s[k].toNat : Int) (by omega), w64_in _ (by omega), Int.tmod_eq_emod_of_nonneg (by omega)]
  omega
theorem spotB_step (s : ByteArray) (k : Nat) (h : k < s.size) : (wrap64 (wrap64 (17 * (spotB (s.data.toList.take k) : Int) + wrap64 (s[k].toNat : Int)) + 5)).tmod 7919 = (spotB (s.data.toList.take (k + 1)) : Int) := by
  have hA := spotB_lt (s.data.toList.take k)
  have hc := s[k].toNat_lt
  have e : spotB (s.data.toList.take (k + 1)) = (17 * spotB (s.data.toList.take k) + s[k].toNat + 5) % 7919 := by rw [take_byte s k h]; simp [spotB]
  rw [e, w64_in (s[k].toNat : Int) (by omega), w64_in (17 * _ + _) (by omega), w64_in _ (by omega), Int.tmod_eq_emod_of_nonneg (by omega)]
  omega
theorem take_all (s : ByteArray) (k : Nat) (h : ¬ k < s.size) : s.data.toList.take k = s.data.toList := List.take_of_length_le (by simp; omega)
theorem wrap_pow (a : Nat) (h : a < 64) : IntKind.u64.wrap ((2 : Int) ^ a) = ((2 ^ a : Nat) : Int) := by
  have h1 : (2 : Int) ^ a = ((2 ^ a : Nat) : Int) := by simp
  have h2 : 2 ^ a < 2 ^ 64 := Nat.pow_lt_pow_right (by omega) h
  rw [h1]
  generalize 2 ^ a = P at *
  rw [IntKind.wrap_u64]; omega
theorem or_mask (l : List UInt8) : bits .or .u64 (2 ^ (spotA l % 64) : Nat) (2 ^ (spotB l % 64) : Nat) = (maskN l : Int) := by
  rw [u64_or_nat]
  · rfl
  · exact Nat.pow_lt_pow_right (n := 64) (by omega) (Nat.mod_lt _ (by omega))
  · exact Nat.pow_lt_pow_right (n := 64) (by omega) (Nat.mod_lt _ (by omega))

set_option maxHeartbeats 1000000 in
theorem spots_any (s : ByteArray) (w : World) (hs : s.size ≤ 4611686018427387904) :
    Calls Tryz.prog 119 #[.string s] w fun e w' => e = .returned (.int .u64 (maskN s.data.toList : Int)) ∧ ∃ q, w' = w.drewN q := by
  go_enter Tryz.func119, Tryz.ntmps119
  go_wp2
  go_loop [3, 4, 5, 6, 9] (fun a b _ _ i => ∃ k : Nat, k ≤ s.size ∧ i = .int .i64 k ∧ a = .int .i64 (spotA (s.data.toList.take k)) ∧ b = .int .i64 (spotB (s.data.toList.take k))) (fun _ _ _ _ i => s.size - (intOf i).toNat)
  case atStart => exact ⟨0, Nat.zero_le _, rfl, rfl, rfl⟩
  case round =>
    obtain ⟨k, hk, rfl, rfl, rfl⟩ := hrel
    by_cases hlt : k < s.size
    · have hA := spotA_lt (s.data.toList.take k)
      have hB := spotB_lt (s.data.toList.take k)
      go_wp2
      go_round
      case rel => exact ⟨k + 1, by omega, by go_num, by rw [spotA_step s k hlt], by rw [spotB_step s k hlt]⟩
      case measure => simp [intOf]; omega
    · rw [take_all s k hlt]
      have hA := spotA_lt s.data.toList
      have hB := spotB_lt s.data.toList
      have HM : Hid (bits .or .u64 (2 ^ (spotA s.data.toList % 64) : Nat) (2 ^ (spotB s.data.toList % 64) : Nat) = (maskN s.data.toList : Int)) := or_mask _
      generalize spotA s.data.toList = A at *
      generalize spotB s.data.toList = B at *
      have m1 : (A : Int).tmod 64 = ((A % 64 : Nat) : Int) := by rw [Int.tmod_eq_emod_of_nonneg (by omega)]; omega
      have m2 : (B : Int).tmod 64 = ((B % 64 : Nat) : Int) := by rw [Int.tmod_eq_emod_of_nonneg (by omega)]; omega
      go_wp2
      go_quiet (fail)
      go_wp2
      go_ret
      refine ⟨ret_of ?_, nq, rfl⟩
      rw [← HM.out, ← wrap_pow (A % 64) (Nat.mod_lt _ (by omega)), ← wrap_pow (B % 64) (Nat.mod_lt _ (by omega))]
      rfl

set_option maxHeartbeats 1000000 in
theorem may_any (f : Nat) (s : ByteArray) (w : World) (hf : f < 18446744073709551616) (hs : s.size ≤ 4611686018427387904) :
    Calls Tryz.prog 110 #[.int .u64 (f : Int), .string s] w fun e w' => e = .returned (.bool (mayN f s.data.toList)) ∧ ∃ q, w' = w.drewN q := by
  have hb := u64_and_nat f (maskN s.data.toList) hf (maskN_lt _)
  have HR : Hid (((f &&& maskN s.data.toList) == maskN s.data.toList) = mayN f s.data.toList) := mayN_mask _ _
  go_enter Tryz.func110, Tryz.ntmps110
  go_wp2_with (go_at_call 119; refine (spots_any s _ hs).mono ?_; rintro e w' ⟨rfl, q, rfl⟩)
  go_ret
  refine ⟨ret_of ?_, q, rfl⟩
  rw [← HR.out]
  refine congrArg Value.bool ?_
  rw [Bool.eq_iff_iff]; simp only [beq_iff_eq]; omega

/-- In world w the slice at 'ao' holds the texts 'ts'. -/
def TxtsAt (w : World) (ao : Option Addr) (ts : List ByteArray) : Prop :=
  ts ≠ [] → ∃ b off, ao = some ⟨b, off, none⟩ ∧ ∀ i t, ts[i]? = some t → w.cell? ⟨b, off + i, none⟩ = some (.string t)
theorem TxtsAt.get {w : World} {ao : Option Addr} {ts : List ByteArray} (h : TxtsAt w ao ts) {k : Nat} (hk : k < ts.length) :
    ∃ b off t, ao = some ⟨b, off, none⟩ ∧ ts[k]? = some t ∧ w.cell? ⟨b, off + k, none⟩ = some (.string t) := by
  obtain ⟨b, off, rfl, hc⟩ := h (by intro e; subst e; simp at hk)
  have he : ts[k]? = some ts[k] := List.getElem?_eq_getElem hk
  exact ⟨b, off, ts[k], rfl, he, hc k _ he⟩
def lightT (ts : List ByteArray) : Bool := decide (ts.length ≤ 60) && ts.all (fun t => decide (t.size ≤ 20))
theorem take_snocT {ts : List ByteArray} {k : Nat} {t : ByteArray} (h : ts[k]? = some t) : ts.take (k + 1) = ts.take k ++ [t] := by
  rw [List.take_add_one, h]; rfl
theorem lightT_mem {ts : List ByteArray} (h : lightT ts = true) {t : ByteArray} (ht : t ∈ ts) : t.size ≤ 20 := by
  unfold lightT at h; simp at h; exact h.2 t ht

theorem or_step (ts : List ByteArray) (k : Nat) (t : ByteArray) (h : ts[k]? = some t) : bits .or .u64 (filterN (ts.take k) : Int) (maskN t.data.toList : Int) = (filterN (ts.take (k + 1)) : Int) := by
  rw [u64_or_nat _ _ (filterN_lt _) (maskN_lt _), take_snocT h, filterN_snoc]

set_option maxHeartbeats 1000000 in
theorem of_any (ao : Option Addr) (cap : Nat) (ts : List ByteArray) (w : World) (hl : ts.length ≤ 9223372036854775807) (hs : ∀ t ∈ ts, t.size ≤ 4611686018427387904) (hts : TxtsAt w ao ts) :
    Calls Tryz.prog 118 #[.slice ao ts.length cap] w fun e w' => e = .returned (.int .u64 (filterN ts : Int)) ∧ ∃ q, w' = w.drewN q := by
  go_enter Tryz.func118, Tryz.ntmps118
  go_wp2
  go_loopw [3, 5, 8] (fun f _ i wr => ∃ (k q : Nat), k ≤ ts.length ∧ i = .int .i64 k ∧ f = .int .u64 (filterN (ts.take k) : Int) ∧ wr = w.drewN q) (fun _ _ i _ => ts.length - (intOf i).toNat)
  case atStart => exact ⟨0, 0, Nat.zero_le _, rfl, rfl, rfl⟩
  case round =>
    obtain ⟨k, q, hk, rfl, rfl, rfl⟩ := hrel
    by_cases hlt : k < ts.length
    · obtain ⟨b, off, t, rfl, he, h1⟩ := hts.get hlt
      have hss := hs t (List.mem_of_getElem? he)
      have ho := or_step ts k t he
      clear he hts hs
      go_wp2_with (go_at_call 119; refine (spots_any t _ hss).mono ?_; rintro e w' ⟨rfl, q2, rfl⟩)
      go_roundw
      case rel => exact ⟨k + 1, _, by omega, by go_num, rfl, rfl⟩
      case measure => simp [intOf]; omega
    · have hkn : ts.take k = ts := List.take_of_length_le (by omega)
      rw [hkn]
      clear hts hs hkn
      go_wp2
      go_ret
      exact ⟨rfl, _, rfl⟩
end Go.Proofs.YtjeinblcpejpnabGreatDoor
