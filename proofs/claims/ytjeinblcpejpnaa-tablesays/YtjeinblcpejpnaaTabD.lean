/- Tables: All. -/
import Derived.Test.YtjeinblcpejpnaaTabC
import Derived.Test.YtjeinblcpejpnaaEntApp
namespace Go.Proofs.Ytjeinblcpejpnaa
open Go.RowKit Go.WideShapes
attribute [local go_sem ↓] Go.wp_at_zero Go.wp_at_succ

theorem parseS_len : ∀ (n : Nat) (s : ByteArray) (es : List Ent), parseS n s = some es → es.length = n
  | 0, s, es, h => by
    unfold parseS at h
    split at h
    · simp at h; subst h; rfl
    · cases h
  | n + 1, s, es, h => by
    unfold parseS at h
    split at h
    · cases h
    · rename_i e m _
      rw [Option.map_eq_some_iff] at h
      obtain ⟨r, hr, rfl⟩ := h
      simp [parseS_len n _ r hr]
theorem entsT_len (s : ByteArray) : (entsT s).1.length ≤ 255 := by
  unfold entsT
  split
  · simp
  · rename_i es h
    unfold parseT at h
    split at h
    · cases h
    · have := parseS_len _ _ _ h
      have hb : byteAt s 0 < 256 := by unfold byteAt; exact UInt8.toNat_lt _
      simp only; omega
theorem pageE_len (M : CM) (b p : Int) : (pageE M b p).1.length ≤ 255 := by
  unfold pageE; split
  · exact entsT_len _
  · simp
/-- The entries of the last r pages, behind those that were read. -/
def goA (M : CM) (b : Int) : List Ent → Nat → List Ent × Int
  | acc, 0 => if tabF acc = 0 then (acc, 0) else ([], 4)
  | acc, r + 1 => if (pageE M b ((8 - (r + 1) : Nat) : Int)).2 = 5 then goA M b acc r else if ¬ (pageE M b ((8 - (r + 1) : Nat) : Int)).2 = 0 then ([], (pageE M b ((8 - (r + 1) : Nat) : Int)).2) else goA M b (acc ++ (pageE M b ((8 - (r + 1) : Nat) : Int)).1) r
theorem goA_succ (M : CM) (b : Int) (acc : List Ent) (r : Nat) : goA M b acc (r + 1) = if (pageE M b ((8 - (r + 1) : Nat) : Int)).2 = 5 then goA M b acc r else if ¬ (pageE M b ((8 - (r + 1) : Nat) : Int)).2 = 0 then ([], (pageE M b ((8 - (r + 1) : Nat) : Int)).2) else goA M b (acc ++ (pageE M b ((8 - (r + 1) : Nat) : Int)).1) r := rfl
/-- What All answers. -/
def allR (M : CM) (b : Int) : List Ent × Int := if ¬ (headR M b).2 = 0 then ([], (headR M b).2) else goA M b [] 7
def AllEnd (w w' : World) (e : Ending) (r : List Ent × Int) : Prop := ∃ ao c, e = .returned (.tuple #[.slice ao r.1.length c, errV r.2]) ∧ EntsAt w' ao r.1 ∧ Ext w w'
theorem eqErr (n m : Int) (W : World) : (binOp .eql 27 (.iface 128 (.int .i64 n)) (.iface 128 (.int .i64 m))).run Try.prog W = .ok (.bool (n == m)) W := by kernel_rfl
theorem eqNil (m : Int) (W : World) : (binOp .eql 27 .nilIface (.iface 128 (.int .i64 m))).run Try.prog W = .ok (.bool false) W := by kernel_rfl

theorem Lst.more {W0 w w' : World} {v : Value} {es : List Ent} (h : Lst W0 w v es) (hx : Ext w w') : Lst W0 w' v es := ⟨ownsRow_ext h.own hx, h.ext.trans hx⟩
set_option maxRecDepth 20000 in
set_option maxHeartbeats 2000000 in
theorem tabAll_any (cb : Nat) (b : Int) (M : CM) (w : World) (h : ChipAt w cb M) :
    Calls Try.prog 61 #[.pointer (some ⟨cb, 0, none⟩), .int .i64 b] w fun e w' => AllEnd w w' e (allR M b) := by
  have HH := readHead_any cb b M w h
  by_cases hz : (headR M b).2 = 0
  · have HR : Hid (allR M b = goA M b [] 7) := by unfold allR Hid; rw [if_neg (by simp [hz])]
    have HHH : Hid (Calls Try.prog 103 #[.pointer (some ⟨cb, 0, none⟩), .int .i64 b] w fun e w' => e = .returned (.tuple #[.int .u64 ((headR M b).1 : Int), .nilIface]) ∧ Ext w w') := by
      unfold errV at HH; rw [if_pos hz] at HH; exact HH
    clear HH hz
    generalize (headR M b).1 = f at *
    rw [HR.out]
    have q1 := eqErr
    have q2 := eqNil
    go_enter Try.func61, Try.ntmps61
    go_wp2_with (go_at_call 103; refine HHH.out.mono ?_; rintro e w1 ⟨rfl, hx1⟩)
    go_loopw [8, 9] (fun v i wr => ∃ (r : Nat) (acc : List Ent), r ≤ 7 ∧ i = .int .i64 ((8 - r : Nat) : Int) ∧ acc.length ≤ 255 * (7 - r) ∧ goA M b [] 7 = goA M b acc r ∧ Lst w wr v acc) (fun _ i _ => 8 - (intOf i).toNat)
    case atStart => exact ⟨7, [], by omega, rfl, by simp, rfl, Lst.nil hx1⟩
    case round =>
      clear hx1
      obtain ⟨r, acc, hr, rfl, hlen, hgo, hL⟩ := hrel
      have hxr := hL.ext
      have hcr := h.ext hxr
      cases r with
      | zero =>
        obtain ⟨ao, cap, rfl, hE⟩ := hL.at
        have HK := tabCheck_any ao cap acc wr (by omega) hE
        by_cases hf : tabF acc = 0
        · have HG : Hid (goA M b [] 7 = (acc, 0)) := by rw [Hid, hgo, goA, if_pos hf]
          have HKK : Hid (Calls Try.prog 64 #[.slice ao acc.length cap] wr fun e w' => e = .returned .nilIface ∧ Ext wr w') := by
            unfold errV at HK; rw [if_pos hf] at HK; exact HK
          clear HK hf hgo hL
          go_wp2_with (go_at_call 64; refine HKK.out.mono ?_; rintro e w2 ⟨rfl, hx2⟩)
          go_ret2
          exact ⟨ao, cap, by rw [HG.out]; rfl, by rw [HG.out]; exact hE.ext hx2, hxr.trans hx2⟩
        · have HG : Hid (goA M b [] 7 = ([], 4)) := by rw [Hid, hgo, goA, if_neg hf]
          have HKK : Hid (Calls Try.prog 64 #[.slice ao acc.length cap] wr fun e w' => e = .returned (.iface 128 (.int .i64 (tabF acc))) ∧ Ext wr w') := by
            unfold errV at HK; rw [if_neg hf] at HK; exact HK
          clear HK hf hgo hL
          generalize tabF acc = tf at *
          go_wp2_with (go_at_call 64; refine HKK.out.mono ?_; rintro e w2 ⟨rfl, hx2⟩)
          go_ret2
          exact ⟨none, 0, by rw [HG.out]; rfl, by rw [HG.out]; exact fun h => absurd rfl h, hxr.trans hx2⟩
      | succ r =>
        obtain ⟨vo, vc, hv⟩ := hL.slice
        subst hv
        have hpl := pageE_len M b ((8 - (r + 1) : Nat) : Int)
        have HE := readEnts_any cb b ((8 - (r + 1) : Nat) : Int) M wr hcr
        have hp8 : ((8 - (r + 1) : Nat) : Int) < 8 := by omega
        rw [goA_succ M b acc r] at hgo
        have hnx : ((8 - (r + 1) : Nat) : Int) + 1 = ((8 - r : Nat) : Int) := by omega
        generalize pageE M b ((8 - (r + 1) : Nat) : Int) = q at *
        obtain ⟨fs, n⟩ := q
        dsimp only at hgo HE hpl
        by_cases hn5 : n = 5
        · subst hn5
          rw [if_pos rfl] at hgo
          have HG : Hid (goA M b [] 7 = goA M b acc r) := hgo
          have HEE : Hid (Calls Try.prog 104 #[.pointer (some ⟨cb, 0, none⟩), .int .i64 b, .int .i64 ((8 - (r + 1) : Nat) : Int)] wr fun e w' => ∃ ao c, e = .returned (.tuple #[.slice ao fs.length c, .iface 128 (.int .i64 5)]) ∧ EntsAt w' ao fs ∧ Ext wr w') := HE
          have HL : Hid (Lst w wr (.slice vo acc.length vc) acc) := hL
          clear HE hgo hL
          generalize ((8 - (r + 1) : Nat) : Int) = p at *
          go_wp2_with (go_at_call 104; refine HEE.out.mono ?_; rintro e w2 ⟨ao, c, rfl, hE2, hx2⟩)
          go_roundw
          case rel => exact ⟨r, acc, by omega, by first | rfl | rw [hnx], by omega, HG.out, Lst.more HL.out hx2⟩
          case measure => simp [intOf]; omega
        · rw [if_neg hn5] at hgo
          by_cases hn0 : n = 0
          · subst hn0
            rw [if_neg (by simp)] at hgo
            have HG : Hid (goA M b [] 7 = goA M b (acc ++ fs) r) := hgo
            have HEE : Hid (Calls Try.prog 104 #[.pointer (some ⟨cb, 0, none⟩), .int .i64 b, .int .i64 ((8 - (r + 1) : Nat) : Int)] wr fun e w' => ∃ ao c, e = .returned (.tuple #[.slice ao fs.length c, .nilIface]) ∧ EntsAt w' ao fs ∧ Ext wr w') := HE
            have HL : Hid (Lst w wr (.slice vo acc.length vc) acc) := hL
            clear HE hgo hL hn5
            generalize ((8 - (r + 1) : Nat) : Int) = p at *
            go_wp2_with (first
              | (go_at_call 104; refine HEE.out.mono ?_; rintro e w2 ⟨ao, c, rfl, hE2, hx2⟩)
              | (at_builtin; refine wpList_app_ents rfl _ _ rfl w (.slice vo acc.length vc) acc rfl (Lst.more HL.out hx2) ao c fs rfl hE2 ?c1 ?_))
            case c1 => omega
            intro v2 w3 hL3
            go_wp2
            go_roundw
            case rel => exact ⟨r, acc ++ fs, by omega, by first | rfl | rw [hnx], by simp; omega, HG.out, hL3⟩
            case measure => simp [intOf]; omega
          · rw [if_pos hn0] at hgo
            have HG : Hid (goA M b [] 7 = ([], n)) := hgo
            have HV : Hid (errV n = .iface 128 (.int .i64 n)) := by unfold errV Hid; rw [if_neg hn0]
            have HEE : Hid (Calls Try.prog 104 #[.pointer (some ⟨cb, 0, none⟩), .int .i64 b, .int .i64 ((8 - (r + 1) : Nat) : Int)] wr fun e w' => ∃ ao c, e = .returned (.tuple #[.slice ao fs.length c, .iface 128 (.int .i64 n)]) ∧ EntsAt w' ao fs ∧ Ext wr w') := by
              rw [HV.out] at HE; exact HE
            have hb5 : (n == 5) = false := by rw [beq_eq_false_iff_ne]; exact hn5
            clear HE hgo hL
            generalize ((8 - (r + 1) : Nat) : Int) = p at *
            go_wp2_with (go_at_call 104; refine HEE.out.mono ?_; rintro e w2 ⟨ao, c, rfl, hE2, hx2⟩)
            go_ret2
            exact ⟨none, 0, by rw [HG.out, HV.out]; rfl, by rw [HG.out]; exact fun h => absurd rfl h, hxr.trans hx2⟩
  · have HR : Hid (allR M b = ([], (headR M b).2)) := by unfold allR Hid; rw [if_pos hz]
    have HV : Hid (errV (headR M b).2 = .iface 128 (.int .i64 (headR M b).2)) := by unfold errV Hid; rw [if_neg hz]
    have HHH : Hid (Calls Try.prog 103 #[.pointer (some ⟨cb, 0, none⟩), .int .i64 b] w fun e w' => e = .returned (.tuple #[.int .u64 ((headR M b).1 : Int), .iface 128 (.int .i64 (headR M b).2)]) ∧ Ext w w') := by
      rw [HV.out] at HH; exact HH
    clear HH hz
    rw [HR.out]
    generalize (headR M b).1 = f at *
    generalize (headR M b).2 = n at *
    go_enter Try.func61, Try.ntmps61
    go_wp2_with (go_at_call 103; refine HHH.out.mono ?_; rintro e w1 ⟨rfl, hx1⟩)
    go_ret2
    exact ⟨none, 0, by rw [HV.out]; rfl, fun h => absurd rfl h, hx1⟩
end Go.Proofs.Ytjeinblcpejpnaa
