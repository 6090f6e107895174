/- TopK. -/
import Derived.Test.YthndopokabceiaaGreatDoorLawAJ
import Derived.Test.YthndopokabceiaaGreatDoorLstGJ

/- TopAsked. -/
namespace Go.Proofs.YthndopokabceiaaGreatDoor
open Go.RowKit Go.WideShapes

/-- What the rows of a store are. -/
theorem Up.plain {n : Nat} {w : World} {S : List Nat} {sb cb : Nat} {m : Man} {k : Nat} {R : List Ent} (h : Up n w S sb cb m k R) : Ris R ∧ (∀ e ∈ R, e.gone = false) ∧ ∀ e ∈ R, faultE e = 0 := by
  obtain ⟨M, a, x, N, O, h1, h2, h3, _⟩ := h.ex
  subst h3
  refine ⟨rowsE_ris _ _ _, fun e he => ?_, fun e he => ?_⟩
  · have := (List.mem_filter.1 (show e ∈ List.filter _ _ from he)).2
    simpa using this
  · obtain ⟨l, hl, hel⟩ := all_mem _ e (List.mem_filter.1 (show e ∈ List.filter _ _ from he)).1
    rcases List.mem_cons.1 hl with rfl | hl
    · obtain ⟨g, _, hL⟩ := h2.lg
      exact hL.ris.2.1 e hel
    rcases List.mem_append.1 hl with hl | hl
    · obtain ⟨x, hx, rfl⟩ := List.mem_map.1 hl
      exact tabF_fault (h2.tn x hx).ok e hel
    · obtain ⟨x, hx, rfl⟩ := List.mem_map.1 hl
      exact tabF_fault (h2.told x hx).ok e hel
/-- What is asked for is there. -/
theorem getR_mem {R : List Ent} (hr : Ris R) {e : Ent} (he : e ∈ R) (hg : e.gone = false) : getR (getE R e.key) = .tuple #[.string e.val, .bool true, .nilIface] := by
  rw [getE_of_mem hr he]
  simp [getR, liveO, hg]
theorem getE_live' {R : List Ent} (hl : ∀ e ∈ R, e.gone = false) (key : ByteArray) : liveO (getE R key) = getE R key := by
  cases h : getE R key with
  | none => rfl
  | some e => simp [liveO, hl e (getE_mem h).1]
theorem getH (w : World) (n k : Nat) (R : List Ent) : Hid (∀ W S sb cb m (key : ByteArray), key.size ≤ 100 → Ext w W → Up n W S sb cb m k R → Calls Tryz.prog 31 #[.pointer (some ⟨sb, 0, none⟩), .string key] W fun e w' => e = .returned (getR (getE R key)) ∧ Ext W w' ∧ Ext w w') := fun W S sb cb m key hk hx hU => (hU.get key (by omega)).mono fun _ _ h => ⟨h.1, h.2, hx.trans h.2⟩
set_option maxRecDepth 20000 in
set_option maxHeartbeats 4000000 in
theorem topAsked_any (ao : Option Addr) (cap : Nat) (acs : List ActE) (key : ByteArray) (hks : key.size ≤ 9223372036854775807) (w : World) (hg : GlobT w) (hl : acs.length ≤ 9223372036854775807) (has : ActsAt w ao acs) :
    Calls Tryz.prog 11 #[.slice ao acs.length cap, .string key] w fun e w' => e = .returned (.bool true) ∧ Ext w w' := by
  have HW := worksH w hg
  cases hf : fillB acs with
  | false =>
    have HF := filledN ao cap acs w hl has hf
    clear has hf hg
    go_enter Tryz.func11, Tryz.ntmps11
    go_wp2_with (first
      | (go_at_call 35; refine HW.out.mono ?_; rintro e w1 ⟨rfl, hx1⟩)
      | (go_at_call 36; refine (HF.out _ hx1).mono ?_; rintro e w2 ⟨rfl, rfl⟩))
    go_ret
    exact ⟨rfl, hx1⟩
  | true =>
    have HF := filledY ao cap acs w hg hl has hf
    generalize weakN acs = k at *
    generalize fillR acs = R at *
    have HR := rowsH w 800 k R
    have HG := getH w 800 k R
    clear has hf hg
    by_cases h20 : (20 : Int) < (key.size : Int)
    · go_enter Tryz.func11, Tryz.ntmps11
      go_wp2_with (first
        | (go_at_call 35; refine HW.out.mono ?_; rintro e w1 ⟨rfl, hx1⟩)
        | (go_at_call 36; refine (HF.out _ hx1).mono ?_; rintro e w2 ⟨cb, sb, S, m, rfl, hU2, hx2, hS2⟩))
      go_ret
      exact ⟨rfl, hx2⟩
    · go_enter Tryz.func11, Tryz.ntmps11
      go_wp2_with (first
        | (go_at_call 35; refine HW.out.mono ?_; rintro e w1 ⟨rfl, hx1⟩)
        | (go_at_call 36; refine (HF.out _ hx1).mono ?_; rintro e w2 ⟨cb, sb, S, m, rfl, hU2, hx2, hS2⟩)
        | (go_at_call 38; refine (HR.out _ _ _ _ _ hx2 hU2).mono ?_; rintro e w3 ⟨ro3, rc3, rfl, hR3, hx3, hX3⟩))
      have hU3 := hU2.ext hx3
      have hfew := hU3.few
      have HP : Hid (Ris R ∧ (∀ e ∈ R, e.gone = false) ∧ ∀ e ∈ R, faultE e = 0) := hU3.plain
      have HE3 : Hid (EntsAt w3 ro3 R) := hR3.at_
      have HU3 : Hid (Up 800 w3 S sb cb m k R) := hU3
      have hk20 : key.size ≤ 20 := by omega
      clear hU3 hU2 hR3 HF HW HR
      go_loopw [9] (fun i wr => ∃ j : Nat, j ≤ R.length ∧ i = .int .i64 j ∧ Ext w3 wr) (fun i _ => R.length - (intOf i).toNat)
      case atStart => exact ⟨0, Nat.zero_le _, rfl, Ext.refl _⟩
      case round =>
        obtain ⟨j, hj, rfl, hxr⟩ := hrel
        by_cases hlt : j < R.length
        · obtain ⟨eb, eo, ek, ev, eg, rfl, he, g1, g2, g3⟩ := (HE3.out.ext2 hxr).get hlt
          have hmem := List.mem_of_getElem? he
          have hgn := HP.out.2.1 _ hmem
          have hk8 := (fault_zero (HP.out.2.2 _ hmem)).1
          dsimp only at hgn hk8
          have HGK : Hid (Calls Tryz.prog 31 #[.pointer (some ⟨sb, 0, none⟩), .string ek] wr fun e w' => e = .returned (.tuple #[.string ev, .bool true, .nilIface]) ∧ Ext wr w' ∧ Ext w w') := by
            have := HG.out wr S sb cb m ek (by omega) (hX3.trans hxr) (HU3.out.ext hxr)
            rw [getR_mem HP.out.1 hmem hgn] at this
            exact this
          by_cases hj0 : j = 0
          · subst hj0
            simp only [Nat.zero_mul, Nat.add_zero] at g1 g2 g3
            have HQ : Hid (wr.cell? ⟨eb, eo, none⟩ = some (.string ek) ∧ wr.cell? ⟨eb, eo + 1, none⟩ = some (.string ev)) := ⟨g1, g2⟩
            clear he hmem HP HG hgn
            go_upto_region 12 with (go_at_call 31; refine HGK.out.mono ?_; rintro e w9 ⟨rfl, hx9, hX9⟩)
            have c1 := hx9.cell HQ.out.1
            have c2 := hx9.cell HQ.out.2
            clear g1 g2 g3
            go_quiet (fail)
            go_wp2_with fail
            go_roundw
            case rel => exact ⟨1, by omega, by go_num, (hxr.trans hx9).drewN _⟩
            case measure => simp [intOf]; omega
          · obtain ⟨i, rfl⟩ : ∃ i, j = i + 1 := ⟨j - 1, by omega⟩
            obtain ⟨eb', eo', pk, pv, pg, heq, he', p1, p2, p3⟩ := (HE3.out.ext2 hxr).get (show i < R.length by omega)
            obtain ⟨rfl, rfl⟩ : eb' = eb ∧ eo' = eo := by simp at heq; exact ⟨heq.1.symm, heq.2.symm⟩
            have hls : Lt pk ek := by
              have := HP.out.1
              unfold Ris at this
              rw [List.pairwise_iff_getElem] at this
              have h := this i (i + 1) (by omega) hlt (by omega)
              rw [List.getElem?_eq_getElem (by omega)] at he he'
              rw [Option.some.inj he, Option.some.inj he'] at h
              exact h
            have hle : (Op.bytesLess ek.toList pk.toList || ek.toList == pk.toList) = false := by
              rw [Lt.nless hls.asymm, beq_ne (fun e => hls.ne e.symm)]; rfl
            have hd : ((i + 1 : Nat) : Int) - 1 = (i : Int) := by omega
            have hd' : (i : Int) + 1 - 1 = (i : Int) := by omega
            have HQ : Hid (wr.cell? ⟨eb', eo' + (i + 1) * 3, none⟩ = some (.string ek) ∧ wr.cell? ⟨eb', eo' + (i + 1) * 3 + 1, none⟩ = some (.string ev) ∧ wr.cell? ⟨eb', eo' + i * 3, none⟩ = some (.string pk)) := ⟨g1, g2, p1⟩
            clear he he' hmem HP HG hgn hls heq p1 p2 p3
            go_upto_region 12 with (go_at_call 31; refine HGK.out.mono ?_; rintro e w9 ⟨rfl, hx9, hX9⟩)
            have c1 := hx9.cell HQ.out.1
            have c2 := hx9.cell HQ.out.2.1
            have c3 := hx9.cell HQ.out.2.2
            clear g1 g2 g3
            go_quiet (fail)
            go_wp2_with fail
            go_roundw
            case rel => exact ⟨i + 1 + 1, by omega, by go_num, (hxr.trans hx9).drewN _⟩
            case measure => simp [intOf]; omega
        · have hgl := getE_live' HP.out.2.1 key
          have HG9 : Hid (Calls Tryz.prog 31 #[.pointer (some ⟨sb, 0, none⟩), .string key] wr fun e w' => e = .returned (getR (getE R key)) ∧ Ext wr w' ∧ Ext w w') := HG.out wr S sb cb m key (by omega) (hX3.trans hxr) (HU3.out.ext hxr)
          have HR9 : Hid (∀ W, Ext wr W → Calls Tryz.prog 32 #[.slice ro3 R.length rc3, .string key] W fun e w' => e = .returned (gotV (getE R key)) ∧ Ext W w') := fun W hx => refGet_any ro3 rc3 R key W (by omega) (HE3.out.ext2 (hxr.trans hx))
          unfold getR at HG9
          rw [hgl] at HG9
          clear hgl HG
          cases hgk : getE R key with
          | none =>
            rw [hgk] at HG9 HR9
            have HR9' : Hid (∀ W, Ext wr W → Calls Tryz.prog 32 #[.slice ro3 R.length rc3, .string key] W fun e w' => e = .returned (.tuple #[.agg #[.string ⟨#[]⟩, .string ⟨#[]⟩, .bool false], .bool false]) ∧ Ext W w') := HR9
            clear hgk HR9 HP HE3 HU3
            go_wp2_with (first
              | (go_at_call 31; refine HG9.out.mono ?_; rintro e w9 ⟨rfl, hx9, hX9⟩)
              | (go_at_call 32; refine (HR9'.out _ hx9).mono ?_; rintro e w10 ⟨rfl, hx10⟩))
            go_ret
            exact ⟨rfl, (hX9.trans hx10).alloc _⟩
          | some e0 =>
            rw [hgk] at HG9 HR9
            have HR9' : Hid (∀ W, Ext wr W → Calls Tryz.prog 32 #[.slice ro3 R.length rc3, .string key] W fun e w' => e = .returned (.tuple #[.agg #[.string e0.key, .string e0.val, .bool e0.gone], .bool true]) ∧ Ext W w') := HR9
            clear hgk HR9 HP HE3 HU3
            go_wp2_with (first
              | (go_at_call 31; refine HG9.out.mono ?_; rintro e w9 ⟨rfl, hx9, hX9⟩)
              | (go_at_call 32; refine (HR9'.out _ hx9).mono ?_; rintro e w10 ⟨rfl, hx10⟩))
            go_ret
            exact ⟨rfl, (hX9.trans hx10).alloc _⟩
end Go.Proofs.YthndopokabceiaaGreatDoor
