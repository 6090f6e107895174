/- Tables: Check. -/
import Derived.Test.YtjeinblcpejpnaaTabA
import Derived.Deep.QuietTactic
import Derived.BigQuiet
namespace Go.Proofs.Ytjeinblcpejpnaa
open Go.RowKit Go.WideShapes
attribute [local go_sem ↓] Go.wp_at_zero Go.wp_at_succ

/-- Is a key not above the one ahead of it? -/
def notUp (p : Option Ent) (e : Ent) : Bool := match p with
  | none => false
  | some q => Op.bytesLess e.key.toList q.key.toList || e.key.toList == q.key.toList
def tabS (p : Option Ent) : List Ent → Int
  | [] => 0
  | e :: r => if ¬ faultB e.key e.val e.gone = 0 then faultB e.key e.val e.gone else if notUp p e then 3 else tabS (some e) r
/-- What is wrong with entries for a table. -/
def tabF (es : List Ent) : Int := if es.length = 0 ∨ 14 < es.length then 2 else tabS none es
def lastE (es : List Ent) (k : Nat) : Option Ent := (es.take k).getLast?
theorem lastE_succ (es : List Ent) (k : Nat) (e : Ent) (h : es[k]? = some e) : lastE es (k + 1) = some e := by
  unfold lastE; rw [List.take_add_one, h]; simp
theorem tabS_step (es : List Ent) (k : Nat) (e : Ent) (h : es[k]? = some e) : tabS (lastE es k) (es.drop k) = if ¬ faultB e.key e.val e.gone = 0 then faultB e.key e.val e.gone else if notUp (lastE es k) e then 3 else tabS (lastE es (k + 1)) (es.drop (k + 1)) := by
  have hk : k < es.length := (List.getElem?_eq_some_iff.1 h).1
  have : es.drop k = e :: es.drop (k + 1) := by
    rw [List.drop_eq_getElem_cons hk]; congr 1; rw [List.getElem?_eq_getElem hk] at h; simpa using h
  rw [this, tabS, lastE_succ es k e h]

set_option maxRecDepth 20000 in
set_option maxHeartbeats 2000000 in
theorem tabCheck_any (ao : Option Addr) (cap : Nat) (es : List Ent) (w : World) (hl : es.length ≤ 9223372036854775807) (hes : EntsAt w ao es) :
    Calls Try.prog 64 #[.slice ao es.length cap] w fun e w' => e = .returned (errV (tabF es)) ∧ Ext w w' := by
  by_cases hn : es.length = 0 ∨ 14 < es.length
  · have HF : Hid (tabF es = 2) := by unfold tabF Hid; rw [if_pos hn]
    clear hes
    rcases hn with h0 | h0
    · have h0' : ((es.length : Int) == 0) = true := by rw [beq_iff_eq]; omega
      go_enter Try.func64, Try.ntmps64
      go_wp2
      go_ret
      exact ⟨by rw [HF.out]; rfl, Ext.refl _⟩
    · have h0' : ((es.length : Int) == 0) = false := by rw [beq_eq_false_iff_ne]; omega
      have h1' : (14 : Int) < (es.length : Int) := by omega
      go_enter Try.func64, Try.ntmps64
      go_wp2
      go_ret
      exact ⟨by rw [HF.out]; rfl, Ext.refl _⟩
  · have h0' : ((es.length : Int) == 0) = false := by rw [beq_eq_false_iff_ne]; omega
    have h1' : ¬ (14 : Int) < (es.length : Int) := by omega
    have HF : Hid (tabF es = tabS none es) := by unfold tabF Hid; rw [if_neg hn]
    have hll : es.length ≤ 14 := by omega
    clear hn
    go_enter Try.func64, Try.ntmps64
    go_wp2_with fail
    go_loopw [17] (fun i wr => ∃ k : Nat, k ≤ es.length ∧ i = .int .i64 k ∧ tabS none es = tabS (lastE es k) (es.drop k) ∧ Ext w wr) (fun i _ => es.length - (intOf i).toNat)
    case atStart => exact ⟨0, Nat.zero_le _, rfl, rfl, Ext.refl _⟩
    case round =>
      obtain ⟨k, hk, rfl, hsc, hx⟩ := hrel
      by_cases hlt : k < es.length
      · obtain ⟨b, off, ek, ev, eg, rfl, he, h1, h2, h3⟩ := hes.get hlt
        have hst := tabS_step es k ⟨ek, ev, eg⟩ he
        dsimp only at hst
        rw [hst] at hsc
        have g1 := hx.cell h1
        have g2 := hx.cell h2
        have g3 := hx.cell h3
        by_cases hf : faultB ek ev eg = 0
        · rw [if_neg (by simp [hf])] at hsc
          have HC : Hid (∀ W, Calls Try.prog 17 #[.agg #[.string ek, .string ev, .bool eg]] W fun e w' => e = .returned .nilIface ∧ Ext W w') := fun W => by
            refine (check_any ek ev eg W).mono ?_
            rintro e w' ⟨rfl, c, rfl⟩
            exact ⟨by rw [hf]; rfl, (Ext.refl W).alloc _⟩
          have HSC : Hid (tabS none es = if notUp (lastE es k) ⟨ek, ev, eg⟩ then 3 else tabS (lastE es (k + 1)) (es.drop (k + 1))) := hsc
          clear hsc hst hf
          by_cases hk0 : k = 0
          · subst hk0
            have HS2 : Hid (tabS none es = tabS (lastE es 1) (es.drop 1)) := by rw [Hid, HSC.out, if_neg (by simp [lastE, notUp])]
            clear h1 h2 h3
            simp only [Nat.zero_mul, Nat.add_zero] at g1 g2 g3
            go_upto_region 9 with (go_at_call 17; refine (HC.out _).mono ?_; rintro e w2 ⟨rfl, hx2⟩)
            have hxx := (hx.alloc _).trans hx2
            go_quiet (fail)
            go_wp2_with fail
            go_roundw
            case rel => exact ⟨1, by omega, by go_num, HS2.out, hxx.drewN _⟩
            case measure => simp [intOf]; omega
          · obtain ⟨j, rfl⟩ : ∃ j, k = j + 1 := ⟨k - 1, by omega⟩
            obtain ⟨b', off', fk, fv, fg, hbb, hfj, p1, p2, p3⟩ := hes.get (show j < es.length by omega)
            obtain ⟨rfl, rfl⟩ : b' = b ∧ off' = off := by simp at hbb; exact ⟨hbb.1.symm, hbb.2.symm⟩
            have HLE : Hid (notUp (lastE es (j + 1)) ⟨ek, ev, eg⟩ = (Op.bytesLess ek.toList fk.toList || ek.toList == fk.toList)) := by
              rw [Hid, lastE_succ es j _ hfj]; rfl
            have hd : ((j + 1 : Nat) : Int) - 1 = (j : Int) := by omega
            have hd' : (j : Int) + 1 - 1 = (j : Int) := by omega
            have HP : Hid (w.cell? ⟨b', off' + j * 3, none⟩ = some (.string fk)) := p1
            have HG : Hid (∀ W, Ext (wr.alloc (.cells #[.string ek, .string ev, .bool eg] 30)) W → W.cell? ⟨wr.heap.size, 0, none⟩ = some (.string ek)) := fun W hW => (Blk.ext hW (Blk.new _ _ _)).cell 0
            clear h1 h2 h3 p1 p2 p3 hbb hfj he
            cases hc : (Op.bytesLess ek.toList fk.toList || ek.toList == fk.toList) with
            | true =>
              have HS2 : Hid (tabS none es = 3) := by rw [Hid, HSC.out, HLE.out, hc]; rfl
              go_upto_region 9 with (go_at_call 17; refine (HC.out _).mono ?_; rintro e w2 ⟨rfl, hx2⟩)
              have hxx := (hx.alloc _).trans hx2
              have p1 := hxx.cell HP.out
              have q1 := HG.out _ hx2
              go_quiet (fail)
              go_wp2_with fail
              go_ret
              exact ⟨by rw [HF.out, HS2.out]; rfl, hxx.drewN _⟩
            | false =>
              have HS2 : Hid (tabS none es = tabS (lastE es (j + 1 + 1)) (es.drop (j + 1 + 1))) := by rw [Hid, HSC.out, HLE.out, hc]; rfl
              go_upto_region 9 with (go_at_call 17; refine (HC.out _).mono ?_; rintro e w2 ⟨rfl, hx2⟩)
              have hxx := (hx.alloc _).trans hx2
              have p1 := hxx.cell HP.out
              have q1 := HG.out _ hx2
              go_quiet (fail)
              go_wp2_with fail
              go_roundw
              case rel => exact ⟨j + 1 + 1, by omega, by go_num, HS2.out, hxx.drewN _⟩
              case measure => simp [intOf]; omega
        · rw [if_pos hf] at hsc
          have HSC : Hid (tabS none es = faultB ek ev eg) := hsc
          have HC : Hid (∀ W, Calls Try.prog 17 #[.agg #[.string ek, .string ev, .bool eg]] W fun e w' => e = .returned (.iface 128 (.int .i64 (faultB ek ev eg))) ∧ Ext W w') := fun W => by
            refine (check_any ek ev eg W).mono ?_
            rintro e w' ⟨rfl, c, rfl⟩
            exact ⟨by unfold errV; rw [if_neg hf], (Ext.refl W).alloc _⟩
          have HV : Hid (errV (faultB ek ev eg) = .iface 128 (.int .i64 (faultB ek ev eg))) := by unfold errV Hid; rw [if_neg hf]
          clear hsc hst hf
          go_wp2_with (go_at_call 17; refine (HC.out _).mono ?_; rintro e w2 ⟨rfl, hx2⟩)
          go_ret
          exact ⟨by rw [HF.out, HSC.out, HV.out]; rfl, (hx.alloc _).trans hx2⟩
      · have HSC : Hid (tabS none es = 0) := by rw [Hid, hsc, List.drop_of_length_le (by omega)]; rfl
        clear hsc
        go_wp2_with fail
        go_ret
        exact ⟨by rw [HF.out, HSC.out]; rfl, hx⟩
end Go.Proofs.Ytjeinblcpejpnaa
