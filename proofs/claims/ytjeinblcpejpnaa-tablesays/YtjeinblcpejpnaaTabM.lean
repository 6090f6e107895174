/- Tables: the document's TableFault. -/
import Derived.Test.YtjeinblcpejpnaaTabL
import Derived.Test.YtjeinblcpejpnaaEntA
namespace Go.Proofs.Ytjeinblcpejpnaa
open Go.RowKit Go.WideShapes
attribute [local go_sem ↓] Go.wp_at_zero Go.wp_at_succ

set_option maxRecDepth 20000 in
set_option maxHeartbeats 2000000 in
theorem refTab_any (ao : Option Addr) (cap : Nat) (es : List Ent) (w : World) (hl : es.length ≤ 9223372036854775807) (hes : EntsAt w ao es) :
    Calls Try.prog 63 #[.slice ao es.length cap] w fun e w' => e = .returned (.int .i64 (tabF es)) ∧ Ext w w' := by
  by_cases hn : es.length = 0 ∨ 14 < es.length
  · have HF : Hid (tabF es = 2) := by unfold tabF Hid; rw [if_pos hn]
    clear hes
    rcases hn with h0 | h0
    · have h0' : (es.length : Int) < 1 := by omega
      go_enter Try.func63, Try.ntmps63
      go_wp2
      go_ret
      exact ⟨by rw [HF.out]; rfl, Ext.refl _⟩
    · have h0' : ¬ (es.length : Int) < 1 := by omega
      have h1' : (14 : Int) < (es.length : Int) := by omega
      go_enter Try.func63, Try.ntmps63
      go_wp2
      go_ret
      exact ⟨by rw [HF.out]; rfl, Ext.refl _⟩
  · have h0' : ¬ (es.length : Int) < 1 := by omega
    have h1' : ¬ (14 : Int) < (es.length : Int) := by omega
    have HF : Hid (tabF es = tabS none es) := by unfold tabF Hid; rw [if_neg hn]
    have hll : es.length ≤ 14 := by omega
    clear hn
    go_enter Try.func63, Try.ntmps63
    go_wp2_with fail
    go_loopw [3] (fun i wr => ∃ k : Nat, k ≤ es.length ∧ i = .int .i64 k ∧ tabS none es = tabS (lastE es k) (es.drop k) ∧ Ext w wr) (fun i _ => es.length - (intOf i).toNat)
    case atStart => exact ⟨0, Nat.zero_le _, rfl, rfl, Ext.refl _⟩
    case round =>
      obtain ⟨k, hk, rfl, hsc, hx⟩ := hrel
      by_cases hlt : k < es.length
      · obtain ⟨b, off, ek, ev, eg, rfl, he, h1, h2, h3⟩ := hes.get hlt
        have hst := tabS_step es k ⟨ek, ev, eg⟩ he
        dsimp only at hst
        rw [hst] at hsc
        have g1 := hx.cell h1
        have g2 := hx.cell h2
        have g3 := hx.cell h3
        have HC : Hid (∀ W, Calls Try.prog 18 #[.agg #[.string ek, .string ev, .bool eg]] W fun e w' => e = .returned (.int .i64 (faultB ek ev eg)) ∧ Ext W w') := fun W => by
          refine (fault_any ek ev eg W).mono ?_
          rintro e w' ⟨rfl, c, rfl⟩
          exact ⟨rfl, (Ext.refl W).alloc _⟩
        rcases faultB_cases ek ev eg with hf | hf | hf
        · rw [hf] at HC
          rw [if_pos (by simp [hf]), hf] at hsc
          have HSC : Hid (tabS none es = 3) := hsc
          clear hsc hst hf h1 h2 h3 he
          go_wp2_with (go_at_call 18; refine (HC.out _).mono ?_; rintro e w2 ⟨rfl, hx2⟩)
          go_ret
          exact ⟨by rw [HF.out, HSC.out]; rfl, hx.trans hx2⟩
        · rw [hf] at HC
          rw [if_pos (by simp [hf]), hf] at hsc
          have HSC : Hid (tabS none es = 2) := hsc
          clear hsc hst hf h1 h2 h3 he
          go_wp2_with (go_at_call 18; refine (HC.out _).mono ?_; rintro e w2 ⟨rfl, hx2⟩)
          go_ret
          exact ⟨by rw [HF.out, HSC.out]; rfl, hx.trans hx2⟩
        · rw [hf] at HC
          rw [if_neg (by simp [hf])] at hsc
          have HSC : Hid (tabS none es = if notUp (lastE es k) ⟨ek, ev, eg⟩ then 3 else tabS (lastE es (k + 1)) (es.drop (k + 1))) := hsc
          clear hsc hst hf
          by_cases hk0 : k = 0
          · subst hk0
            have HS2 : Hid (tabS none es = tabS (lastE es 1) (es.drop 1)) := by rw [Hid, HSC.out, if_neg (by simp [lastE, notUp])]
            clear h1 h2 h3
            simp only [Nat.zero_mul, Nat.add_zero] at g1 g2 g3
            go_upto_region 9 with (go_at_call 18; refine (HC.out _).mono ?_; rintro e w2 ⟨rfl, hx2⟩)
            have hxx := hx.trans hx2
            go_quiet (fail)
            go_wp2_with fail
            go_roundw
            case rel => exact ⟨1, by omega, by go_num, HS2.out, hxx.drewN _⟩
            case measure => simp [intOf]; omega
          · obtain ⟨j, rfl⟩ : ∃ j, k = j + 1 := ⟨k - 1, by omega⟩
            obtain ⟨b', off', fk, fv, fg, hbb, hfj, p1, p2, p3⟩ := hes.get (show j < es.length by omega)
            obtain ⟨rfl, rfl⟩ : b' = b ∧ off' = off := by simp at hbb; exact ⟨hbb.1.symm, hbb.2.symm⟩
            have HLE : Hid (notUp (lastE es (j + 1)) ⟨ek, ev, eg⟩ = (Op.bytesLess ek.toList fk.toList || ek.toList == fk.toList)) := by
              rw [Hid, lastE_succ es j _ hfj]; rfl
            have hd : ((j + 1 : Nat) : Int) - 1 = (j : Int) := by omega
            have hd' : (j : Int) + 1 - 1 = (j : Int) := by omega
            have HP : Hid (w.cell? ⟨b', off' + j * 3, none⟩ = some (.string fk)) := p1
            have HQ : Hid (wr.cell? ⟨b', off' + (j + 1) * 3, none⟩ = some (.string ek)) := g1
            clear h1 h2 h3 p1 p2 p3 hbb hfj he
            cases hc : (Op.bytesLess ek.toList fk.toList || ek.toList == fk.toList) with
            | true =>
              have HS2 : Hid (tabS none es = 3) := by rw [Hid, HSC.out, HLE.out, hc]; rfl
              go_upto_region 9 with (go_at_call 18; refine (HC.out _).mono ?_; rintro e w2 ⟨rfl, hx2⟩)
              have hxx := hx.trans hx2
              have p1 := hxx.cell HP.out
              have q1 := hx2.cell HQ.out
              go_quiet (fail)
              go_wp2_with fail
              go_ret
              exact ⟨by rw [HF.out, HS2.out]; rfl, hxx.drewN _⟩
            | false =>
              have HS2 : Hid (tabS none es = tabS (lastE es (j + 1 + 1)) (es.drop (j + 1 + 1))) := by rw [Hid, HSC.out, HLE.out, hc]; rfl
              go_upto_region 9 with (go_at_call 18; refine (HC.out _).mono ?_; rintro e w2 ⟨rfl, hx2⟩)
              have hxx := hx.trans hx2
              have p1 := hxx.cell HP.out
              have q1 := hx2.cell HQ.out
              go_quiet (fail)
              go_wp2_with fail
              go_roundw
              case rel => exact ⟨j + 1 + 1, by omega, by go_num, HS2.out, hxx.drewN _⟩
              case measure => simp [intOf]; omega
      · have hkl : k = es.length := by omega
        subst hkl
        have HS2 : Hid (tabS none es = 0) := by rw [Hid, hsc, List.drop_length]; rfl
        clear hsc hes
        go_wp2_with fail
        go_ret
        exact ⟨by rw [HF.out, HS2.out]; rfl, hx⟩
end Go.Proofs.Ytjeinblcpejpnaa
