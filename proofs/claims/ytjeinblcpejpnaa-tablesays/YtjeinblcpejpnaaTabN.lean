/- Tables: the document's TableIn. -/
import Derived.Test.YtjeinblcpejpnaaTabM
import Derived.Test.YtjeinblcpejpnaaRefB
import Derived.Test.YtjeinblcpejpnaaEntW
namespace Go.Proofs.Ytjeinblcpejpnaa
open Go.RowKit Go.WideShapes
attribute [local go_sem ↓] Go.wp_at_zero Go.wp_at_succ

theorem rread_len {w : World} {cb : Nat} {M : CM} (h : ChipAt w cb M) (b p : Int) (hz : (readR M b p).2 = 0) : (readR M b p).1.length = 64 := by
  unfold readR at hz ⊢
  split at hz
  · simp at hz
  · rename_i hdn
    rw [if_neg hdn]
    split at hz
    · rename_i hc
      rw [if_pos hc]
      split at hz
      · simp at hz
      · rename_i d hg
        obtain ⟨⟨cs, fv, _, h2, _⟩, _⟩ := h
        have := (h2.blk b.toNat (by omega)).d64 _ d hg
        simp only; exact this
      · simp at hz
    · simp at hz
/-- What EntriesOf answers, in plain words. -/
theorem refEnts_any (s : ByteArray) (w : World) (hs : s.size ≤ 281474976710656) :
    Calls Try.prog 22 #[.string s] w fun e w' => ∃ ao c, e = .returned (.tuple #[.slice ao (entsT s).1.length c, .int .i64 (entsT s).2]) ∧ EntsAt w' ao (entsT s).1 ∧ Ext w w' := by
  refine (refEntries_any s w hs).mono ?_
  rintro e w' (⟨h1, rfl, hx⟩ | ⟨es, v, h1, rfl, ho, hx⟩)
  · have : entsT s = ([], 4) := by unfold entsT; rw [h1]
    rw [this]
    exact ⟨none, 0, rfl, fun h => absurd rfl h, hx⟩
  · have : entsT s = (es, 0) := by unfold entsT; rw [h1]
    rw [this]
    obtain ⟨ao, c, rfl, he⟩ := ents_of_row ho
    exact ⟨ao, c, rfl, he, hx⟩
theorem pageE_cases (M : CM) (b p : Int) : (¬ (readR M b p).2 = 0 ∧ pageE M b p = ([], (readR M b p).2)) ∨ ((readR M b p).2 = 0 ∧ pageE M b p = entsT (txtL (readR M b p).1)) := by
  unfold pageE
  by_cases h : (readR M b p).2 = 0
  · exact .inr ⟨h, by rw [if_pos h]⟩
  · exact .inl ⟨h, by rw [if_neg h]⟩
theorem entsT_err (s : ByteArray) : (entsT s).2 = 0 ∨ ((entsT s).2 = 4 ∧ (entsT s).1 = []) := by
  unfold entsT
  split
  · exact .inr ⟨rfl, rfl⟩
  · exact .inl rfl
theorem readR_nn (M : CM) (b p : Int) : 0 ≤ (readR M b p).2 := by
  unfold readR; split
  · simp
  · split
    · split <;> simp
    · simp
def InEnd (w : World) (r : List Ent × Int) (e : Ending) (w' : World) : Prop := ∃ ao c, e = .returned (.tuple #[.slice ao r.1.length c, .int .i64 r.2]) ∧ EntsAt w' ao r.1 ∧ Ext w w'
theorem ix_first (d : List UInt8) (hd : d.length = 64) (W : World) : (Instr.index 9 (.string (txtL d)) (.int .i64 0)).run Try.prog W = .ok (.int .u8 (bytA d 0 : Int)) W := by
  obtain ⟨x, xs, rfl⟩ : ∃ x xs, d = x :: xs := by
    cases d with
    | nil => simp at hd
    | cons x xs => exact ⟨x, xs, rfl⟩
  have hsz : (txtL (x :: xs)).size = 64 := by show (x :: xs).toArray.size = 64; simpa using hd
  exact ix_at (txtL (x :: xs)) 0 x (by omega) rfl 0 rfl W
theorem tabS_nn : ∀ (es : List Ent) (p : Option Ent), 0 ≤ tabS p es
  | [], _ => by unfold tabS; exact Int.le_refl 0
  | x :: xs, p => by
    unfold tabS
    split
    · rcases faultB_cases x.key x.val x.gone with h | h | h <;> omega
    · split
      · decide
      · exact tabS_nn xs _
theorem tabF_pos {es : List Ent} (h : ¬ tabF es = 0) : 0 < tabF es := by
  have : 0 ≤ tabF es := by
    unfold tabF
    split
    · decide
    · exact tabS_nn es none
  omega
set_option maxRecDepth 20000 in
set_option maxHeartbeats 4000000 in
theorem refIn_any (rb cb : Nat) (b : Int) (M : CM) (w : World) (h : RefAt w rb M) (hc : ChipAt w cb M) :
    Calls Try.prog 62 #[.pointer (some ⟨rb, 0, none⟩), .int .i64 b] w (InEnd w (allR M b)) := by
  have HRD : Hid (∀ (p : Int) W, Ext w W → Calls Try.prog 38 #[.pointer (some ⟨rb, 0, none⟩), .int .i64 b, .int .i64 p] W fun e w' => e = .returned (.tuple #[.string (txtL (readR M b p).1), .int .i64 (readR M b p).2]) ∧ Ext W w') := fun p W hx => (rread_any rb b p M W (h.ext hx)).mono fun e w' ⟨h1, h2⟩ => ⟨h1, by rw [h2]; exact Ext.refl _⟩
  have h0n := readR_nn M b 0
  by_cases hz : (readR M b 0).2 = 0
  · have hd := rread_len hc b 0 hz
    have HX := ix_first (readR M b 0).1 hd
    have HR0 : Hid (Calls Try.prog 38 #[.pointer (some ⟨rb, 0, none⟩), .int .i64 b, .int .i64 0] w fun e w' => e = .returned (.tuple #[.string (txtL (readR M b 0).1), .int .i64 0]) ∧ Ext w w') := by
      have := HRD.out 0 w (Ext.refl _); rw [hz] at this; exact this
    by_cases h70 : bytA (readR M b 0).1 0 = 70
    · have HA : Hid (allR M b = goA M b [] 7) := by
        unfold allR headR Hid
        rw [if_neg (show ¬ ¬ (readR M b 0).2 = 0 by simp [hz]), if_neg (by simp [h70])]
      rw [h70] at HX
      rw [HA.out]
      have HL64 : Hid (∀ p, (readR M b p).1.length ≤ 64) := fun p => readR_len hc b p
      clear hz hd h70 h0n h hc
      generalize txtL (readR M b 0).1 = T0 at *
      go_enter Try.func62, Try.ntmps62
      go_wp2_with (go_at_call 38; refine HR0.out.mono ?_; rintro e w1 ⟨rfl, hx1⟩)
      clear HX HR0
      go_loopw [8, 9] (fun v i wr => ∃ (r : Nat) (acc : List Ent), r ≤ 7 ∧ i = .int .i64 ((8 - r : Nat) : Int) ∧ acc.length ≤ 255 * (7 - r) ∧ goA M b [] 7 = goA M b acc r ∧ Lst w wr v acc) (fun _ i _ => 8 - (intOf i).toNat)
      case atStart => exact ⟨7, [], by omega, rfl, by simp, rfl, Lst.nil hx1⟩
      case round =>
        clear hx1
        obtain ⟨r, acc, hr, rfl, hlen, hgo, hL⟩ := hrel
        have hxr := hL.ext
        cases r with
        | zero =>
          obtain ⟨ao, cap, rfl, hE⟩ := hL.at
          have HK := refTab_any ao cap acc wr (by omega) hE
          by_cases hf : tabF acc = 0
          · have HG : Hid (goA M b [] 7 = (acc, 0)) := by rw [Hid, hgo, goA, if_pos hf]
            have HKK : Hid (Calls Try.prog 63 #[.slice ao acc.length cap] wr fun e w' => e = .returned (.int .i64 0) ∧ Ext wr w') := by
              rw [hf] at HK; exact HK
            clear HK hf hgo hL
            go_wp2_with (go_at_call 63; refine HKK.out.mono ?_; rintro e w2 ⟨rfl, hx2⟩)
            go_ret2
            exact ⟨ao, cap, by rw [HG.out]; rfl, by rw [HG.out]; exact hE.ext hx2, hxr.trans hx2⟩
          · have HG : Hid (goA M b [] 7 = ([], 4)) := by rw [Hid, hgo, goA, if_neg hf]
            have hpos : 0 < tabF acc := tabF_pos hf
            have HKK : Hid (Calls Try.prog 63 #[.slice ao acc.length cap] wr fun e w' => e = .returned (.int .i64 (tabF acc)) ∧ Ext wr w') := HK
            clear HK hf hgo hL
            generalize tabF acc = tf at *
            go_wp2_with (go_at_call 63; refine HKK.out.mono ?_; rintro e w2 ⟨rfl, hx2⟩)
            go_ret2
            exact ⟨none, 0, by rw [HG.out]; rfl, by rw [HG.out]; exact fun h => absurd rfl h, hxr.trans hx2⟩
        | succ r =>
          obtain ⟨vo, vc, hv⟩ := hL.slice
          subst hv
          have hpl := pageE_len M b ((8 - (r + 1) : Nat) : Int)
          have hp8 : ((8 - (r + 1) : Nat) : Int) < 8 := by omega
          rw [goA_succ M b acc r] at hgo
          have hnx : ((8 - (r + 1) : Nat) : Int) + 1 = ((8 - r : Nat) : Int) := by omega
          have HR := HRD.out ((8 - (r + 1) : Nat) : Int) wr hxr
          have hnn := readR_nn M b ((8 - (r + 1) : Nat) : Int)
          have h64 := HL64.out ((8 - (r + 1) : Nat) : Int)
          have hcs := pageE_cases M b ((8 - (r + 1) : Nat) : Int)
          generalize pageE M b ((8 - (r + 1) : Nat) : Int) = q at *
          generalize readR M b ((8 - (r + 1) : Nat) : Int) = rd at *
          obtain ⟨fs, n⟩ := q
          obtain ⟨d, f⟩ := rd
          dsimp only at hgo hpl HR hnn hcs h64
          rcases hcs with ⟨hf0, hq⟩ | ⟨hf0, hq⟩
          · obtain ⟨rfl, rfl⟩ : fs = [] ∧ f = n := by cases hq; exact ⟨rfl, rfl⟩
            by_cases hn5 : f = 5
            · subst hn5
              rw [if_pos rfl] at hgo
              have HG : Hid (goA M b [] 7 = goA M b acc r) := hgo
              have HL : Hid (Lst w wr (.slice vo acc.length vc) acc) := hL
              have HRR : Hid (Calls Try.prog 38 #[.pointer (some ⟨rb, 0, none⟩), .int .i64 b, .int .i64 ((8 - (r + 1) : Nat) : Int)] wr fun e w' => e = .returned (.tuple #[.string (txtL d), .int .i64 5]) ∧ Ext wr w') := HR
              clear HR hgo hL hf0
              generalize ((8 - (r + 1) : Nat) : Int) = p at *
              generalize txtL d = T at *
              go_wp2_with (go_at_call 38; refine HRR.out.mono ?_; rintro e w9 ⟨rfl, hx9⟩)
              go_roundw
              case rel => exact ⟨r, acc, by omega, by first | rfl | rw [hnx], by omega, HG.out, Lst.more HL.out hx9⟩
              case measure => simp [intOf]; omega
            · rw [if_neg hn5, if_pos hf0] at hgo
              have HG : Hid (goA M b [] 7 = ([], f)) := hgo
              have hb5 : (f == 5) = false := by rw [beq_eq_false_iff_ne]; exact hn5
              have hfp : 0 < f := by omega
              have HRR : Hid (Calls Try.prog 38 #[.pointer (some ⟨rb, 0, none⟩), .int .i64 b, .int .i64 ((8 - (r + 1) : Nat) : Int)] wr fun e w' => e = .returned (.tuple #[.string (txtL d), .int .i64 f]) ∧ Ext wr w') := HR
              clear HR hgo hL hf0 hn5
              generalize ((8 - (r + 1) : Nat) : Int) = p at *
              generalize txtL d = T at *
              go_wp2_with (go_at_call 38; refine HRR.out.mono ?_; rintro e w9 ⟨rfl, hx9⟩)
              go_ret2
              exact ⟨none, 0, by rw [HG.out]; rfl, by rw [HG.out]; exact fun h => absurd rfl h, hxr.trans hx9⟩
          · subst hf0
            have HRR : Hid (Calls Try.prog 38 #[.pointer (some ⟨rb, 0, none⟩), .int .i64 b, .int .i64 ((8 - (r + 1) : Nat) : Int)] wr fun e w' => e = .returned (.tuple #[.string (txtL d), .int .i64 0]) ∧ Ext wr w') := HR
            have hts : (txtL d).size ≤ 281474976710656 := by show d.toArray.size ≤ _; simp; omega
            have HEN := fun W => refEnts_any (txtL d) W hts
            have her := entsT_err (txtL d)
            simp only [← hq] at HEN her
            rcases her with hn0 | ⟨hn0, hf0⟩
            · subst hn0
              rw [if_neg (by decide), if_neg (by simp)] at hgo
              have HG : Hid (goA M b [] 7 = goA M b (acc ++ fs) r) := hgo
              have HEE : Hid (∀ W, Calls Try.prog 22 #[.string (txtL d)] W fun e w' => ∃ ao c, e = .returned (.tuple #[.slice ao fs.length c, .int .i64 0]) ∧ EntsAt w' ao fs ∧ Ext W w') := HEN
              have HL : Hid (Lst w wr (.slice vo acc.length vc) acc) := hL
              clear HR HEN hgo hL hq hts
              generalize ((8 - (r + 1) : Nat) : Int) = p at *
              generalize txtL d = T at *
              go_wp2_with (first
                | (go_at_call 38; refine HRR.out.mono ?_; rintro e w9 ⟨rfl, hx9⟩)
                | (go_at_call 22; refine (HEE.out _).mono ?_; rintro e w2 ⟨ao, c, rfl, hE2, hx2⟩)
                | (at_builtin; refine wpList_app_ents rfl _ _ rfl w (.slice vo acc.length vc) acc rfl (Lst.more HL.out (hx9.trans hx2)) ao c fs rfl hE2 ?c1 ?_))
              case c1 => omega
              intro v2 w3 hL3
              go_wp2
              go_roundw
              case rel => exact ⟨r, acc ++ fs, by omega, by first | rfl | rw [hnx], by simp; omega, HG.out, hL3⟩
              case measure => simp [intOf]; omega
            · subst hn0
              subst hf0
              rw [if_neg (by decide), if_pos (by decide)] at hgo
              have HG : Hid (goA M b [] 7 = ([], 4)) := hgo
              have HEE : Hid (∀ W, Calls Try.prog 22 #[.string (txtL d)] W fun e w' => ∃ ao c, e = .returned (.tuple #[.slice ao 0 c, .int .i64 4]) ∧ EntsAt w' ao [] ∧ Ext W w') := HEN
              clear HR HEN hgo hL hq hts
              generalize ((8 - (r + 1) : Nat) : Int) = p at *
              generalize txtL d = T at *
              go_wp2_with (first
                | (go_at_call 38; refine HRR.out.mono ?_; rintro e w9 ⟨rfl, hx9⟩)
                | (go_at_call 22; refine (HEE.out _).mono ?_; rintro e w2 ⟨ao, c, rfl, hE2, hx2⟩))
              go_ret2
              exact ⟨none, 0, by rw [HG.out]; rfl, by rw [HG.out]; exact fun h => absurd rfl h, hxr.trans (hx9.trans hx2)⟩
    · have HA : Hid (allR M b = ([], 4)) := by
        unfold allR headR Hid
        rw [if_neg (show ¬ ¬ (readR M b 0).2 = 0 by simp [hz]), if_pos h70]
        rfl
      have hne : ((bytA (readR M b 0).1 0 : Int) != 70) = true := by simp; omega
      rw [HA.out]
      clear hz hd h70 h0n h hc HRD
      generalize bytA (readR M b 0).1 0 = bt at *
      generalize txtL (readR M b 0).1 = T0 at *
      go_enter Try.func62, Try.ntmps62
      go_wp2_with (go_at_call 38; refine HR0.out.mono ?_; rintro e w1 ⟨rfl, hx1⟩)
      go_ret2
      exact ⟨none, 0, rfl, fun h => absurd rfl h, hx1⟩
  · have HA : Hid (allR M b = ([], (readR M b 0).2)) := by
      unfold allR headR Hid
      rw [if_pos hz]
      exact if_pos hz
    have hfp : 0 < (readR M b 0).2 := by omega
    have HR0 : Hid (Calls Try.prog 38 #[.pointer (some ⟨rb, 0, none⟩), .int .i64 b, .int .i64 0] w fun e w' => e = .returned (.tuple #[.string (txtL (readR M b 0).1), .int .i64 (readR M b 0).2]) ∧ Ext w w') := HRD.out 0 w (Ext.refl _)
    rw [HA.out]
    clear hz h0n h hc HRD
    generalize (readR M b 0).2 = f at *
    generalize txtL (readR M b 0).1 = T0 at *
    go_enter Try.func62, Try.ntmps62
    go_wp2_with (go_at_call 38; refine HR0.out.mono ?_; rintro e w1 ⟨rfl, hx1⟩)
    go_ret2
    exact ⟨none, 0, rfl, fun h => absurd rfl h, hx1⟩
end Go.Proofs.Ytjeinblcpejpnaa
