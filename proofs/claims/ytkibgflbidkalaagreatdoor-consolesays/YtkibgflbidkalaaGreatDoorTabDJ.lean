/- TabA TabB TabC TabD. -/
import Derived.Test.YtkibgflbidkalaaGreatDoorEntSJ
import Derived.Test.YtkibgflbidkalaaGreatDoorChpJJ
import Derived.Deep.QuietTactic
import Derived.BigQuiet
import Derived.Lib.EndianBits
import Derived.Test.YtkibgflbidkalaaGreatDoorEntAppJ

/- Tables: a page's entries. -/
namespace Go.Proofs.YtkibgflbidkalaaGreatDoor
open Go.RowKit Go.WideShapes

def entsT (s : ByteArray) : List Ent × Int := match parseT s with
  | none => ([], 4)
  | some es => (es, 0)
def pageE (M : CM) (b p : Int) : List Ent × Int := if (readR M b p).2 = 0 then entsT (txtL (readR M b p).1) else ([], (readR M b p).2)
theorem parse_ents (s : ByteArray) (w : World) (hs : s.size ≤ 281474976710656) :
    Calls Tryz.prog 83 #[.string s] w fun e w' => ∃ ao c, e = .returned (.tuple #[.slice ao (entsT s).1.length c, errV (entsT s).2]) ∧ EntsAt w' ao (entsT s).1 ∧ Ext w w' := by
  refine (parse_any s w hs).mono ?_
  rintro e w' (⟨h1, rfl, hx⟩ | ⟨es, v, h1, rfl, hown, hx⟩)
  · have h2 : entsT s = ([], 4) := by unfold entsT; rw [h1]
    rw [h2]; exact ⟨none, 0, rfl, fun h => absurd rfl h, hx⟩
  · have h2 : entsT s = (es, 0) := by unfold entsT; rw [h1]
    obtain ⟨ao, cap, rfl, he⟩ := ents_of_row hown
    rw [h2]; exact ⟨ao, cap, rfl, he, hx⟩
theorem readR_len {w : World} {cb : Nat} {M : CM} (h : ChipAt w cb M) (b p : Int) : (readR M b p).1.length ≤ 64 := by
  unfold readR
  split
  · simp
  · split
    · rename_i hc
      split
      · simp
      · rename_i d hg
        obtain ⟨⟨cs, fv, _, h2, _⟩, _⟩ := h
        have := (h2.blk b.toNat (by omega)).d64 p.toNat d hg
        simp only; omega
      · simp
    · simp
set_option maxRecDepth 20000 in
set_option maxHeartbeats 1000000 in
theorem readEnts_any (cb : Nat) (b p : Int) (M : CM) (w : World) (h : ChipAt w cb M) :
    Calls Tryz.prog 166 #[.pointer (some ⟨cb, 0, none⟩), .int .i64 b, .int .i64 p] w fun e w' => ∃ ao c, e = .returned (.tuple #[.slice ao (pageE M b p).1.length c, errV (pageE M b p).2]) ∧ EntsAt w' ao (pageE M b p).1 ∧ Ext w w' := by
  have hln := readR_len h b p
  have HR := read_any cb b p M w h
  by_cases hz : (readR M b p).2 = 0
  · have HE : Hid (pageE M b p = entsT (txtL (readR M b p).1)) := by unfold pageE Hid; rw [if_pos hz]
    have HRR : Hid (Calls Tryz.prog 73 #[.pointer (some ⟨cb, 0, none⟩), .int .i64 b, .int .i64 p] w fun e w' => e = .returned (.tuple #[.string (txtL (readR M b p).1), .nilIface]) ∧ w' = w) := by
      unfold errV at HR; rw [if_pos hz] at HR; exact HR
    have HP : Hid (∀ W, Calls Tryz.prog 83 #[.string (txtL (readR M b p).1)] W fun e w' => ∃ ao c, e = .returned (.tuple #[.slice ao (entsT (txtL (readR M b p).1)).1.length c, errV (entsT (txtL (readR M b p).1)).2]) ∧ EntsAt w' ao (entsT (txtL (readR M b p).1)).1 ∧ Ext W w') := fun W => parse_ents _ W (by rw [Lib.size_eq]; simp [txtL]; omega)
    clear HR hz h hln
    generalize txtL (readR M b p).1 = T at *
    rw [HE.out]
    generalize (entsT T).1 = es at *
    generalize errV (entsT T).2 = ev at *
    go_enter Tryz.func166, Tryz.ntmps166
    go_wp2_with (first
      | (go_at_call 73; refine HRR.out.mono ?_; rintro e w' ⟨rfl, rfl⟩)
      | (go_at_call 83; refine (HP.out _).mono ?_; rintro e w2 ⟨ao, c, rfl, he, hx⟩))
    go_ret2
    exact ⟨ao, c, rfl, he, hx⟩
  · have HE : Hid (pageE M b p = ([], (readR M b p).2)) := by unfold pageE Hid; rw [if_neg hz]
    have HRR : Hid (Calls Tryz.prog 73 #[.pointer (some ⟨cb, 0, none⟩), .int .i64 b, .int .i64 p] w fun e w' => e = .returned (.tuple #[.string (txtL (readR M b p).1), .iface 39 (.int .i64 (readR M b p).2)]) ∧ w' = w) := by
      unfold errV at HR; rw [if_neg hz] at HR; exact HR
    have HV : Hid (errV (readR M b p).2 = .iface 39 (.int .i64 (readR M b p).2)) := by unfold errV Hid; rw [if_neg hz]
    clear HR hz h hln
    rw [HE.out, HV.out]
    generalize txtL (readR M b p).1 = T at *
    generalize (readR M b p).2 = f at *
    go_enter Tryz.func166, Tryz.ntmps166
    go_wp2_with (go_at_call 73; refine HRR.out.mono ?_; rintro e w' ⟨rfl, rfl⟩)
    go_ret2
    exact ⟨none, 0, rfl, fun h => absurd rfl h, Ext.refl _⟩
end Go.Proofs.YtkibgflbidkalaaGreatDoor

/- Tables: Check. -/
namespace Go.Proofs.YtkibgflbidkalaaGreatDoor
open Go.RowKit Go.WideShapes
attribute [local go_sem ↓] Go.wp_at_zero Go.wp_at_succ

def notUp (p : Option Ent) (e : Ent) : Bool := match p with
  | none => false
  | some q => Op.bytesLess e.key.toList q.key.toList || e.key.toList == q.key.toList
def tabS (p : Option Ent) : List Ent → Int
  | [] => 0
  | e :: r => if ¬ faultB e.key e.val e.gone = 0 then faultB e.key e.val e.gone else if notUp p e then 3 else tabS (some e) r
def tabF (es : List Ent) : Int := if es.length = 0 ∨ 14 < es.length then 2 else tabS none es
def lastE (es : List Ent) (k : Nat) : Option Ent := (es.take k).getLast?
theorem lastE_succ (es : List Ent) (k : Nat) (e : Ent) (h : es[k]? = some e) : lastE es (k + 1) = some e := by
  unfold lastE; rw [List.take_add_one, h]; simp
theorem tabS_step (es : List Ent) (k : Nat) (e : Ent) (h : es[k]? = some e) : tabS (lastE es k) (es.drop k) = if ¬ faultB e.key e.val e.gone = 0 then faultB e.key e.val e.gone else if notUp (lastE es k) e then 3 else tabS (lastE es (k + 1)) (es.drop (k + 1)) := by
  have hk : k < es.length := (List.getElem?_eq_some_iff.1 h).1
  have : es.drop k = e :: es.drop (k + 1) := by
    rw [List.drop_eq_getElem_cons hk]; congr 1; rw [List.getElem?_eq_getElem hk] at h; simpa using h
  rw [this, tabS, lastE_succ es k e h]

set_option maxRecDepth 20000 in
set_option maxHeartbeats 2000000 in
theorem tabCheck_any (ao : Option Addr) (cap : Nat) (es : List Ent) (w : World) (hl : es.length ≤ 9223372036854775807) (hes : EntsAt w ao es) :
    Calls Tryz.prog 167 #[.slice ao es.length cap] w fun e w' => e = .returned (errV (tabF es)) ∧ Ext w w' := by
  by_cases hn : es.length = 0 ∨ 14 < es.length
  · have HF : Hid (tabF es = 2) := by unfold tabF Hid; rw [if_pos hn]
    clear hes
    rcases hn with h0 | h0
    · have h0' : ((es.length : Int) == 0) = true := by rw [beq_iff_eq]; omega
      go_enter Tryz.func167, Tryz.ntmps167
      go_wp2
      go_ret
      exact ⟨by rw [HF.out]; rfl, Ext.refl _⟩
    · have h0' : ((es.length : Int) == 0) = false := by rw [beq_eq_false_iff_ne]; omega
      have h1' : (14 : Int) < (es.length : Int) := by omega
      go_enter Tryz.func167, Tryz.ntmps167
      go_wp2
      go_ret
      exact ⟨by rw [HF.out]; rfl, Ext.refl _⟩
  · have h0' : ((es.length : Int) == 0) = false := by rw [beq_eq_false_iff_ne]; omega
    have h1' : ¬ (14 : Int) < (es.length : Int) := by omega
    have HF : Hid (tabF es = tabS none es) := by unfold tabF Hid; rw [if_neg hn]
    have hll : es.length ≤ 14 := by omega
    clear hn
    go_enter Tryz.func167, Tryz.ntmps167
    go_wp2_with fail
    go_loopw [17] (fun i wr => ∃ k : Nat, k ≤ es.length ∧ i = .int .i64 k ∧ tabS none es = tabS (lastE es k) (es.drop k) ∧ Ext w wr) (fun i _ => es.length - (intOf i).toNat)
    case atStart => exact ⟨0, Nat.zero_le _, rfl, rfl, Ext.refl _⟩
    case round =>
      obtain ⟨k, hk, rfl, hsc, hx⟩ := hrel
      by_cases hlt : k < es.length
      · obtain ⟨b, off, ek, ev, eg, rfl, he, h1, h2, h3⟩ := hes.get hlt
        have hst := tabS_step es k ⟨ek, ev, eg⟩ he
        dsimp only at hst
        rw [hst] at hsc
        have g1 := hx.cell h1
        have g2 := hx.cell h2
        have g3 := hx.cell h3
        by_cases hf : faultB ek ev eg = 0
        · rw [if_neg (by simp [hf])] at hsc
          have HC : Hid (∀ W, Calls Tryz.prog 132 #[.agg #[.string ek, .string ev, .bool eg]] W fun e w' => e = .returned .nilIface ∧ Ext W w') := fun W => by
            refine (check_any ek ev eg W).mono ?_
            rintro e w' ⟨rfl, c, rfl⟩
            exact ⟨by rw [hf]; rfl, (Ext.refl W).alloc _⟩
          have HSC : Hid (tabS none es = if notUp (lastE es k) ⟨ek, ev, eg⟩ then 3 else tabS (lastE es (k + 1)) (es.drop (k + 1))) := hsc
          clear hsc hst hf
          by_cases hk0 : k = 0
          · subst hk0
            have HS2 : Hid (tabS none es = tabS (lastE es 1) (es.drop 1)) := by rw [Hid, HSC.out, if_neg (by simp [lastE, notUp])]
            clear h1 h2 h3
            simp only [Nat.zero_mul, Nat.add_zero] at g1 g2 g3
            go_upto_region 9 with (go_at_call 132; refine (HC.out _).mono ?_; rintro e w2 ⟨rfl, hx2⟩)
            have hxx := (hx.alloc _).trans hx2
            go_quiet (fail)
            go_wp2_with fail
            go_roundw
            case rel => exact ⟨1, by omega, by go_num, HS2.out, hxx.drewN _⟩
            case measure => simp [intOf]; omega
          · obtain ⟨j, rfl⟩ : ∃ j, k = j + 1 := ⟨k - 1, by omega⟩
            obtain ⟨b', off', fk, fv, fg, hbb, hfj, p1, p2, p3⟩ := hes.get (show j < es.length by omega)
            obtain ⟨rfl, rfl⟩ : b' = b ∧ off' = off := by simp at hbb; exact ⟨hbb.1.symm, hbb.2.symm⟩
            have HLE : Hid (notUp (lastE es (j + 1)) ⟨ek, ev, eg⟩ = (Op.bytesLess ek.toList fk.toList || ek.toList == fk.toList)) := by
              rw [Hid, lastE_succ es j _ hfj]; rfl
            have hd : ((j + 1 : Nat) : Int) - 1 = (j : Int) := by omega
            have hd' : (j : Int) + 1 - 1 = (j : Int) := by omega
            have HP : Hid (w.cell? ⟨b', off' + j * 3, none⟩ = some (.string fk)) := p1
            have HG : Hid (∀ W, Ext (wr.alloc (.cells #[.string ek, .string ev, .bool eg] 56)) W → W.cell? ⟨wr.heap.size, 0, none⟩ = some (.string ek)) := fun W hW => (Blk.ext hW (Blk.new _ _ _)).cell 0
            clear h1 h2 h3 p1 p2 p3 hbb hfj he
            cases hc : (Op.bytesLess ek.toList fk.toList || ek.toList == fk.toList) with
            | true =>
              have HS2 : Hid (tabS none es = 3) := by rw [Hid, HSC.out, HLE.out, hc]; rfl
              go_upto_region 9 with (go_at_call 132; refine (HC.out _).mono ?_; rintro e w2 ⟨rfl, hx2⟩)
              have hxx := (hx.alloc _).trans hx2
              have p1 := hxx.cell HP.out
              have q1 := HG.out _ hx2
              go_quiet (fail)
              go_wp2_with fail
              go_ret
              exact ⟨by rw [HF.out, HS2.out]; rfl, hxx.drewN _⟩
            | false =>
              have HS2 : Hid (tabS none es = tabS (lastE es (j + 1 + 1)) (es.drop (j + 1 + 1))) := by rw [Hid, HSC.out, HLE.out, hc]; rfl
              go_upto_region 9 with (go_at_call 132; refine (HC.out _).mono ?_; rintro e w2 ⟨rfl, hx2⟩)
              have hxx := (hx.alloc _).trans hx2
              have p1 := hxx.cell HP.out
              have q1 := HG.out _ hx2
              go_quiet (fail)
              go_wp2_with fail
              go_roundw
              case rel => exact ⟨j + 1 + 1, by omega, by go_num, HS2.out, hxx.drewN _⟩
              case measure => simp [intOf]; omega
        · rw [if_pos hf] at hsc
          have HSC : Hid (tabS none es = faultB ek ev eg) := hsc
          have HC : Hid (∀ W, Calls Tryz.prog 132 #[.agg #[.string ek, .string ev, .bool eg]] W fun e w' => e = .returned (.iface 39 (.int .i64 (faultB ek ev eg))) ∧ Ext W w') := fun W => by
            refine (check_any ek ev eg W).mono ?_
            rintro e w' ⟨rfl, c, rfl⟩
            exact ⟨by unfold errV; rw [if_neg hf], (Ext.refl W).alloc _⟩
          have HV : Hid (errV (faultB ek ev eg) = .iface 39 (.int .i64 (faultB ek ev eg))) := by unfold errV Hid; rw [if_neg hf]
          clear hsc hst hf
          go_wp2_with (go_at_call 132; refine (HC.out _).mono ?_; rintro e w2 ⟨rfl, hx2⟩)
          go_ret
          exact ⟨by rw [HF.out, HSC.out, HV.out]; rfl, (hx.alloc _).trans hx2⟩
      · have HSC : Hid (tabS none es = 0) := by rw [Hid, hsc, List.drop_of_length_le (by omega)]; rfl
        clear hsc
        go_wp2_with fail
        go_ret
        exact ⟨by rw [HF.out, HSC.out]; rfl, hx⟩
end Go.Proofs.YtkibgflbidkalaaGreatDoor

/- Tables: the filter of a table. -/
namespace Go.Proofs.YtkibgflbidkalaaGreatDoor
open Go.RowKit Go.WideShapes
attribute [local go_sem ↓] Go.wp_at_zero Go.wp_at_succ

def bytA (d : List UInt8) (i : Nat) : Nat := (d.getD i 0).toNat
def headN (d : List UInt8) : Nat → Nat
  | 0 => 0
  | k + 1 => headN d k + bytA d (1 + k) * 256 ^ k
theorem bytA_lt (d : List UInt8) (i : Nat) : bytA d i < 256 := (d.getD i 0).toNat_lt
theorem headN_lt (d : List UInt8) : ∀ k, headN d k < 256 ^ k
  | 0 => by simp [headN]
  | k + 1 => by
    have h1 := headN_lt d k
    have h2 := bytA_lt d (1 + k)
    have h3 : bytA d (1 + k) * 256 ^ k ≤ 255 * 256 ^ k := Nat.mul_le_mul_right _ (by omega)
    simp only [headN]
    rw [Nat.pow_succ]
    omega
theorem u64_or (y x : Int) (i : Nat) (hy₀ : 0 ≤ y) (hy : y < 2 ^ i) (hy1 : y < 2 ^ 64) (hx₀ : 0 ≤ x) (hx : x % 2 ^ i = 0) (hx₁ : x < 2 ^ 64) : bits .or .u64 y x = y + x :=
  bits_join_low .u64 64 (by decide) wraps_u64 i y x hy₀ hy hy1 hx₀ hx hx₁
theorem or_byte (F y k : Nat) (hk : k < 8) (hF : F < 256 ^ k) (hy : y < 256) : bits .or .u64 (F : Int) (IntKind.u64.wrap ((y : Int) * 2 ^ (8 * k))) = ((F + y * 256 ^ k : Nat) : Int) := by
  have hp : (2 : Int) ^ (8 * k) = ((256 ^ k : Nat) : Int) := by rw [Int.pow_mul]; simp
  have h7 : 256 ^ k ≤ 256 ^ 7 := Nat.pow_le_pow_right (by omega) (by omega)
  have hm : y * 256 ^ k ≤ 255 * 256 ^ k := Nat.mul_le_mul_right _ (by omega)
  have hx : (y : Int) * ((256 ^ k : Nat) : Int) = ((y * 256 ^ k : Nat) : Int) := by simp
  have hlt : y * 256 ^ k < 18446744073709551616 := by omega
  rw [hp, hx, wraps_u64 _ (by omega) (by omega)]
  rw [u64_or _ _ (8 * k) (by omega) (by rw [hp]; omega) (by omega) (by omega) (by rw [hp, ← hx]; exact Int.mul_emod_left _ _) (by omega)]
  omega
def headR (M : CM) (b : Int) : Nat × Int := if ¬ (readR M b 0).2 = 0 then (0, (readR M b 0).2) else if ¬ bytA (readR M b 0).1 0 = 70 then (0, 4) else (headN (readR M b 0).1 8, 0)

set_option maxRecDepth 20000 in
set_option maxHeartbeats 2000000 in
theorem readHead_ok (cb : Nat) (b : Int) (d : List UInt8) (w : World) (hd : d.length = 64) (h70 : bytA d 0 = 70)
    (HR : Calls Tryz.prog 73 #[.pointer (some ⟨cb, 0, none⟩), .int .i64 b, .int .i64 0] w fun e w' => e = .returned (.tuple #[.string (txtL d), .nilIface]) ∧ w' = w) :
    Calls Tryz.prog 165 #[.pointer (some ⟨cb, 0, none⟩), .int .i64 b] w fun e w' => e = .returned (.tuple #[.int .u64 (headN d 8 : Int), .nilIface]) ∧ Ext w w' := by
  have HRR : Hid (Calls Tryz.prog 73 #[.pointer (some ⟨cb, 0, none⟩), .int .i64 b, .int .i64 0] w fun e w' => e = .returned (.tuple #[.string (txtL d), .nilIface]) ∧ w' = w) := HR
  have hsz : (txtL d).size = 64 := by rw [Lib.size_eq]; simp [txtL, hd]
  have HIX : Hid (∀ i : Nat, i < 64 → ∀ W : World, (Instr.index 9 (.string (txtL d)) (.int .i64 (i : Int))).run Tryz.prog W = .ok (.int .u8 (bytA d i : Int)) W) := fun i hi W => by
    have hi' : i < (txtL d).size := by omega
    have h1 : (txtL d)[i].toNat = bytA d i := by
      unfold bytA; rw [List.getD_eq_getElem?_getD, List.getElem?_eq_getElem (by omega)]; rfl
    rw [← h1]
    simp [go_sem, Tryz.underlying9, hi']
  have i0 := HIX.out 0 (by omega)
  rw [h70] at i0
  simp only [Int.cast_ofNat_Int] at i0
  clear HR
  generalize txtL d = T at *
  go_enter Tryz.func165, Tryz.ntmps165
  go_wp2_with (go_at_call 73; refine HRR.out.mono ?_; rintro e w1 ⟨rfl, hw1⟩; subst w1)
  go_loopw [8, 23] (fun f i wr => ∃ k : Nat, k ≤ 8 ∧ i = .int .i64 k ∧ f = .int .u64 (headN d k : Int) ∧ Ext w wr) (fun _ i _ => 8 - (intOf i).toNat)
  case atStart => exact ⟨0, by omega, rfl, rfl, Ext.refl _⟩
  case round =>
    obtain ⟨k, hk, rfl, rfl, hx⟩ := hrel
    by_cases hlt : k < 8
    · have ix := HIX.out (1 + k) (by omega)
      rw [show ((1 + k : Nat) : Int) = 1 + (k : Int) by omega] at ix
      have hb := bytA_lt d (1 + k)
      have hh := headN_lt d k
      have HN : Hid (headN d (k + 1) = headN d k + bytA d (1 + k) * 256 ^ k) := rfl
      generalize bytA d (1 + k) = y at *
      generalize headN d k = F at *
      clear i0
      go_wp2_with fail
      go_roundw
      case rel => exact ⟨k + 1, by omega, by go_num, by rw [or_byte F y k hlt hh hb, HN.out], hx⟩
      case measure => simp [intOf]; omega
    · have hk8 : k = 8 := by omega
      subst hk8
      go_wp2_with fail
      go_ret2
      exact ⟨rfl, hx⟩
set_option maxRecDepth 20000 in
set_option maxHeartbeats 1000000 in
theorem readHead_mark (cb : Nat) (b : Int) (d : List UInt8) (w : World) (hd : d.length = 64) (h70 : ¬ bytA d 0 = 70)
    (HR : Calls Tryz.prog 73 #[.pointer (some ⟨cb, 0, none⟩), .int .i64 b, .int .i64 0] w fun e w' => e = .returned (.tuple #[.string (txtL d), .nilIface]) ∧ w' = w) :
    Calls Tryz.prog 165 #[.pointer (some ⟨cb, 0, none⟩), .int .i64 b] w fun e w' => e = .returned (.tuple #[.int .u64 0, .iface 39 (.int .i64 4)]) ∧ Ext w w' := by
  have HRR : Hid (Calls Tryz.prog 73 #[.pointer (some ⟨cb, 0, none⟩), .int .i64 b, .int .i64 0] w fun e w' => e = .returned (.tuple #[.string (txtL d), .nilIface]) ∧ w' = w) := HR
  have hsz : 0 < (txtL d).size := by rw [Lib.size_eq]; simp [txtL, hd]
  have i0 : ∀ W : World, (Instr.index 9 (.string (txtL d)) (.int .i64 0)).run Tryz.prog W = .ok (.int .u8 (bytA d 0 : Int)) W := fun W => by
    have h1 : (txtL d)[0].toNat = bytA d 0 := by
      unfold bytA; rw [List.getD_eq_getElem?_getD, List.getElem?_eq_getElem (by omega)]; rfl
    rw [← h1]
    simp [go_sem, Tryz.underlying9, hsz]
  have h70' : ¬ (bytA d 0 : Int) = 70 := by omega
  clear HR
  generalize txtL d = T at *
  generalize (bytA d 0 : Int) = x at *
  go_enter Tryz.func165, Tryz.ntmps165
  go_wp2_with (go_at_call 73; refine HRR.out.mono ?_; rintro e w1 ⟨rfl, hw1⟩; subst w1)
  go_ret2
  exact ⟨rfl, Ext.refl _⟩
set_option maxHeartbeats 1000000 in
theorem readHead_err (cb : Nat) (b f : Int) (T : ByteArray) (w : World)
    (HR : Calls Tryz.prog 73 #[.pointer (some ⟨cb, 0, none⟩), .int .i64 b, .int .i64 0] w fun e w' => e = .returned (.tuple #[.string T, .iface 39 (.int .i64 f)]) ∧ w' = w) :
    Calls Tryz.prog 165 #[.pointer (some ⟨cb, 0, none⟩), .int .i64 b] w fun e w' => e = .returned (.tuple #[.int .u64 0, .iface 39 (.int .i64 f)]) ∧ Ext w w' := by
  have HRR : Hid (Calls Tryz.prog 73 #[.pointer (some ⟨cb, 0, none⟩), .int .i64 b, .int .i64 0] w fun e w' => e = .returned (.tuple #[.string T, .iface 39 (.int .i64 f)]) ∧ w' = w) := HR
  clear HR
  go_enter Tryz.func165, Tryz.ntmps165
  go_wp2_with (go_at_call 73; refine HRR.out.mono ?_; rintro e w1 ⟨rfl, hw1⟩; subst w1)
  go_ret2
  exact ⟨rfl, Ext.refl _⟩
theorem readHead_any (cb : Nat) (b : Int) (M : CM) (w : World) (h : ChipAt w cb M) :
    Calls Tryz.prog 165 #[.pointer (some ⟨cb, 0, none⟩), .int .i64 b] w fun e w' => e = .returned (.tuple #[.int .u64 ((headR M b).1 : Int), errV (headR M b).2]) ∧ Ext w w' := by
  have HR := read_any cb b 0 M w h
  by_cases hz : (readR M b 0).2 = 0
  · have hd : (readR M b 0).1.length = 64 := by
      unfold readR at hz ⊢
      split at hz
      · simp at hz
      · rename_i hdn
        rw [if_neg hdn]
        split at hz
        · rename_i hc
          rw [if_pos hc]
          split at hz
          · simp at hz
          · rename_i d hg
            obtain ⟨⟨cs, fv, _, h2, _⟩, _⟩ := h
            have := (h2.blk b.toNat (by omega)).d64 _ d hg
            simp only; exact this
          · simp at hz
        · simp at hz
    unfold errV at HR; rw [if_pos hz] at HR
    by_cases h70 : bytA (readR M b 0).1 0 = 70
    · have : headR M b = (headN (readR M b 0).1 8, 0) := by unfold headR; rw [if_neg (by simp [hz]), if_neg (by simp [h70])]
      rw [this]
      exact readHead_ok cb b _ w hd h70 HR
    · have : headR M b = (0, 4) := by unfold headR; rw [if_neg (by simp [hz]), if_pos h70]
      rw [this]
      exact readHead_mark cb b _ w hd h70 HR
  · have : headR M b = (0, (readR M b 0).2) := by unfold headR; rw [if_pos hz]
    rw [this]
    unfold errV at HR ⊢; rw [if_neg hz] at HR; simp only [if_neg hz]
    exact readHead_err cb b _ _ w HR
end Go.Proofs.YtkibgflbidkalaaGreatDoor

/- Tables: All. -/
namespace Go.Proofs.YtkibgflbidkalaaGreatDoor
open Go.RowKit Go.WideShapes
attribute [local go_sem ↓] Go.wp_at_zero Go.wp_at_succ

theorem parseS_len : ∀ (n : Nat) (s : ByteArray) (es : List Ent), parseS n s = some es → es.length = n
  | 0, s, es, h => by
    unfold parseS at h
    split at h
    · simp at h; subst h; rfl
    · cases h
  | n + 1, s, es, h => by
    unfold parseS at h
    split at h
    · cases h
    · rename_i e m _
      rw [Option.map_eq_some_iff] at h
      obtain ⟨r, hr, rfl⟩ := h
      simp [parseS_len n _ r hr]
theorem entsT_len (s : ByteArray) : (entsT s).1.length ≤ 255 := by
  unfold entsT
  split
  · simp
  · rename_i es h
    unfold parseT at h
    split at h
    · cases h
    · have := parseS_len _ _ _ h
      have hb : byteAt s 0 < 256 := by unfold byteAt; exact UInt8.toNat_lt _
      simp only; omega
theorem pageE_len (M : CM) (b p : Int) : (pageE M b p).1.length ≤ 255 := by
  unfold pageE; split
  · exact entsT_len _
  · simp
def goA (M : CM) (b : Int) : List Ent → Nat → List Ent × Int
  | acc, 0 => if tabF acc = 0 then (acc, 0) else ([], 4)
  | acc, r + 1 => if (pageE M b ((8 - (r + 1) : Nat) : Int)).2 = 5 then goA M b acc r else if ¬ (pageE M b ((8 - (r + 1) : Nat) : Int)).2 = 0 then ([], (pageE M b ((8 - (r + 1) : Nat) : Int)).2) else goA M b (acc ++ (pageE M b ((8 - (r + 1) : Nat) : Int)).1) r
theorem goA_succ (M : CM) (b : Int) (acc : List Ent) (r : Nat) : goA M b acc (r + 1) = if (pageE M b ((8 - (r + 1) : Nat) : Int)).2 = 5 then goA M b acc r else if ¬ (pageE M b ((8 - (r + 1) : Nat) : Int)).2 = 0 then ([], (pageE M b ((8 - (r + 1) : Nat) : Int)).2) else goA M b (acc ++ (pageE M b ((8 - (r + 1) : Nat) : Int)).1) r := rfl
def allR (M : CM) (b : Int) : List Ent × Int := if ¬ (headR M b).2 = 0 then ([], (headR M b).2) else goA M b [] 7
def AllEndC (w w' : World) (e : Ending) (r : List Ent × Int) : Prop := ∃ ao c, e = .returned (.tuple #[.slice ao r.1.length c, errV r.2]) ∧ EntsAt w' ao r.1 ∧ r.1.length ≤ c ∧ (∀ a, ao = some a → ∃ cs, Blk w' a.block cs 56) ∧ Ext w w'
theorem own_cap {w : World} {base : Nat} {e : TypeId} {size : Nat} {ao : Option Addr} {n c : Nat} {xs : List Value} (h : w.ownsRow base e size (.slice ao n c) n xs) : n ≤ c := by
  rcases h.2 with ⟨h1, h2⟩ | ⟨g, cap, cur, h1, _, _, h2, _⟩
  · omega
  · simp only [Value.slice.injEq] at h1
    omega
theorem own_blk {w : World} {base : Nat} {e : TypeId} {size : Nat} {ao : Option Addr} {n c : Nat} {xs : List Value} (h : w.ownsRow base e size (.slice ao n c) n xs) : ∀ a, ao = some a → ∃ cs, Blk w a.block cs e := fun a ha => by
  rcases h.2 with ⟨h1, h2⟩ | ⟨g, cap, cur, h1, _, hh, _⟩
  · simp only [Value.slice.injEq] at h1
    rw [h1.1] at ha; cases ha
  · simp only [Value.slice.injEq] at h1
    rw [h1.1] at ha; cases ha
    exact ⟨cur, ⟨hh⟩⟩
theorem eqErr (n m : Int) (W : World) : (binOp .eql 25 (.iface 39 (.int .i64 n)) (.iface 39 (.int .i64 m))).run Tryz.prog W = .ok (.bool (n == m)) W := by kernel_rfl
theorem eqNil (m : Int) (W : World) : (binOp .eql 25 .nilIface (.iface 39 (.int .i64 m))).run Tryz.prog W = .ok (.bool false) W := by kernel_rfl

theorem Lst.more {W0 w w' : World} {v : Value} {es : List Ent} (h : Lst W0 w v es) (hx : Ext w w') : Lst W0 w' v es := ⟨ownsRow_ext h.own hx, h.ext.trans hx⟩
set_option maxRecDepth 20000 in
set_option maxHeartbeats 2000000 in
theorem tabAllC_any (cb : Nat) (b : Int) (M : CM) (w : World) (h : ChipAt w cb M) :
    Calls Tryz.prog 142 #[.pointer (some ⟨cb, 0, none⟩), .int .i64 b] w fun e w' => AllEndC w w' e (allR M b) := by
  have HH := readHead_any cb b M w h
  by_cases hz : (headR M b).2 = 0
  · have HR : Hid (allR M b = goA M b [] 7) := by unfold allR Hid; rw [if_neg (by simp [hz])]
    have HHH : Hid (Calls Tryz.prog 165 #[.pointer (some ⟨cb, 0, none⟩), .int .i64 b] w fun e w' => e = .returned (.tuple #[.int .u64 ((headR M b).1 : Int), .nilIface]) ∧ Ext w w') := by
      unfold errV at HH; rw [if_pos hz] at HH; exact HH
    clear HH hz
    generalize (headR M b).1 = f at *
    rw [HR.out]
    have q1 := eqErr
    have q2 := eqNil
    go_enter Tryz.func142, Tryz.ntmps142
    go_wp2_with (go_at_call 165; refine HHH.out.mono ?_; rintro e w1 ⟨rfl, hx1⟩)
    go_loopw [8, 9] (fun v i wr => ∃ (r : Nat) (acc : List Ent), r ≤ 7 ∧ i = .int .i64 ((8 - r : Nat) : Int) ∧ acc.length ≤ 255 * (7 - r) ∧ goA M b [] 7 = goA M b acc r ∧ Lst w wr v acc) (fun _ i _ => 8 - (intOf i).toNat)
    case atStart => exact ⟨7, [], by omega, rfl, by simp, rfl, Lst.nil hx1⟩
    case round =>
      clear hx1
      obtain ⟨r, acc, hr, rfl, hlen, hgo, hL⟩ := hrel
      have hxr := hL.ext
      have hcr := h.ext hxr
      cases r with
      | zero =>
        obtain ⟨ao, cap, rfl, hE⟩ := hL.at
        have HCL : Hid (acc.length ≤ cap) := own_cap hL.own
        have HBK : Hid (∀ a, ao = some a → ∃ cs, Blk wr a.block cs 56) := own_blk hL.own
        have HK := tabCheck_any ao cap acc wr (by omega) hE
        by_cases hf : tabF acc = 0
        · have HG : Hid (goA M b [] 7 = (acc, 0)) := by rw [Hid, hgo, goA, if_pos hf]
          have HKK : Hid (Calls Tryz.prog 167 #[.slice ao acc.length cap] wr fun e w' => e = .returned .nilIface ∧ Ext wr w') := by
            unfold errV at HK; rw [if_pos hf] at HK; exact HK
          clear HK hf hgo hL
          go_wp2_with (go_at_call 167; refine HKK.out.mono ?_; rintro e w2 ⟨rfl, hx2⟩)
          go_ret2
          exact ⟨ao, cap, by rw [HG.out]; rfl, by rw [HG.out]; exact hE.ext hx2, by rw [HG.out]; exact HCL.out, fun a ha => (HBK.out a ha).imp fun _ h => h.ext hx2, hxr.trans hx2⟩
        · have HG : Hid (goA M b [] 7 = ([], 4)) := by rw [Hid, hgo, goA, if_neg hf]
          have HKK : Hid (Calls Tryz.prog 167 #[.slice ao acc.length cap] wr fun e w' => e = .returned (.iface 39 (.int .i64 (tabF acc))) ∧ Ext wr w') := by
            unfold errV at HK; rw [if_neg hf] at HK; exact HK
          clear HK hf hgo hL
          generalize tabF acc = tf at *
          go_wp2_with (go_at_call 167; refine HKK.out.mono ?_; rintro e w2 ⟨rfl, hx2⟩)
          go_ret2
          exact ⟨none, 0, by rw [HG.out]; rfl, by rw [HG.out]; exact fun h => absurd rfl h, by rw [HG.out]; exact Nat.le_refl _, fun a ha => (by cases ha), hxr.trans hx2⟩
      | succ r =>
        obtain ⟨vo, vc, hv⟩ := hL.slice
        subst hv
        have hpl := pageE_len M b ((8 - (r + 1) : Nat) : Int)
        have HE := readEnts_any cb b ((8 - (r + 1) : Nat) : Int) M wr hcr
        have hp8 : ((8 - (r + 1) : Nat) : Int) < 8 := by omega
        rw [goA_succ M b acc r] at hgo
        have hnx : ((8 - (r + 1) : Nat) : Int) + 1 = ((8 - r : Nat) : Int) := by omega
        generalize pageE M b ((8 - (r + 1) : Nat) : Int) = q at *
        obtain ⟨fs, n⟩ := q
        dsimp only at hgo HE hpl
        by_cases hn5 : n = 5
        · subst hn5
          rw [if_pos rfl] at hgo
          have HG : Hid (goA M b [] 7 = goA M b acc r) := hgo
          have HEE : Hid (Calls Tryz.prog 166 #[.pointer (some ⟨cb, 0, none⟩), .int .i64 b, .int .i64 ((8 - (r + 1) : Nat) : Int)] wr fun e w' => ∃ ao c, e = .returned (.tuple #[.slice ao fs.length c, .iface 39 (.int .i64 5)]) ∧ EntsAt w' ao fs ∧ Ext wr w') := HE
          have HL : Hid (Lst w wr (.slice vo acc.length vc) acc) := hL
          clear HE hgo hL
          generalize ((8 - (r + 1) : Nat) : Int) = p at *
          go_wp2_with (go_at_call 166; refine HEE.out.mono ?_; rintro e w2 ⟨ao, c, rfl, hE2, hx2⟩)
          go_roundw
          case rel => exact ⟨r, acc, by omega, by first | rfl | rw [hnx], by omega, HG.out, Lst.more HL.out hx2⟩
          case measure => simp [intOf]; omega
        · rw [if_neg hn5] at hgo
          by_cases hn0 : n = 0
          · subst hn0
            rw [if_neg (by simp)] at hgo
            have HG : Hid (goA M b [] 7 = goA M b (acc ++ fs) r) := hgo
            have HEE : Hid (Calls Tryz.prog 166 #[.pointer (some ⟨cb, 0, none⟩), .int .i64 b, .int .i64 ((8 - (r + 1) : Nat) : Int)] wr fun e w' => ∃ ao c, e = .returned (.tuple #[.slice ao fs.length c, .nilIface]) ∧ EntsAt w' ao fs ∧ Ext wr w') := HE
            have HL : Hid (Lst w wr (.slice vo acc.length vc) acc) := hL
            clear HE hgo hL hn5
            generalize ((8 - (r + 1) : Nat) : Int) = p at *
            go_wp2_with (first
              | (go_at_call 166; refine HEE.out.mono ?_; rintro e w2 ⟨ao, c, rfl, hE2, hx2⟩)
              | (at_builtin; refine wpList_app_ents rfl _ _ rfl w (.slice vo acc.length vc) acc rfl (Lst.more HL.out hx2) ao c fs rfl hE2 ?c1 ?_))
            case c1 => omega
            intro v2 w3 hL3
            go_wp2
            go_roundw
            case rel => exact ⟨r, acc ++ fs, by omega, by first | rfl | rw [hnx], by simp; omega, HG.out, hL3⟩
            case measure => simp [intOf]; omega
          · rw [if_pos hn0] at hgo
            have HG : Hid (goA M b [] 7 = ([], n)) := hgo
            have HV : Hid (errV n = .iface 39 (.int .i64 n)) := by unfold errV Hid; rw [if_neg hn0]
            have HEE : Hid (Calls Tryz.prog 166 #[.pointer (some ⟨cb, 0, none⟩), .int .i64 b, .int .i64 ((8 - (r + 1) : Nat) : Int)] wr fun e w' => ∃ ao c, e = .returned (.tuple #[.slice ao fs.length c, .iface 39 (.int .i64 n)]) ∧ EntsAt w' ao fs ∧ Ext wr w') := by
              rw [HV.out] at HE; exact HE
            have hb5 : (n == 5) = false := by rw [beq_eq_false_iff_ne]; exact hn5
            clear HE hgo hL
            generalize ((8 - (r + 1) : Nat) : Int) = p at *
            go_wp2_with (go_at_call 166; refine HEE.out.mono ?_; rintro e w2 ⟨ao, c, rfl, hE2, hx2⟩)
            go_ret2
            exact ⟨none, 0, by rw [HG.out, HV.out]; rfl, by rw [HG.out]; exact fun h => absurd rfl h, by rw [HG.out]; exact Nat.le_refl _, fun a ha => (by cases ha), hxr.trans hx2⟩
  · have HR : Hid (allR M b = ([], (headR M b).2)) := by unfold allR Hid; rw [if_pos hz]
    have HV : Hid (errV (headR M b).2 = .iface 39 (.int .i64 (headR M b).2)) := by unfold errV Hid; rw [if_neg hz]
    have HHH : Hid (Calls Tryz.prog 165 #[.pointer (some ⟨cb, 0, none⟩), .int .i64 b] w fun e w' => e = .returned (.tuple #[.int .u64 ((headR M b).1 : Int), .iface 39 (.int .i64 (headR M b).2)]) ∧ Ext w w') := by
      rw [HV.out] at HH; exact HH
    clear HH hz
    rw [HR.out]
    generalize (headR M b).1 = f at *
    generalize (headR M b).2 = n at *
    go_enter Tryz.func142, Tryz.ntmps142
    go_wp2_with (go_at_call 165; refine HHH.out.mono ?_; rintro e w1 ⟨rfl, hx1⟩)
    go_ret2
    exact ⟨none, 0, by rw [HV.out]; rfl, fun h => absurd rfl h, Nat.le_refl _, fun a ha => (by cases ha), hx1⟩
end Go.Proofs.YtkibgflbidkalaaGreatDoor
