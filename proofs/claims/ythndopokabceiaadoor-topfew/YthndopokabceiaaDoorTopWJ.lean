/- TopW. -/
import Derived.Test.YthndopokabceiaaDoorValAJ
import Derived.Test.YthndopokabceiaaDoorManRJ

/- TopFew. -/
namespace Go.Proofs.YthndopokabceiaaDoor
open Go.RowKit Go.WideShapes

set_option maxRecDepth 20000 in
set_option maxHeartbeats 4000000 in
theorem topFew_any (ao : Option Addr) (cap : Nat) (acs : List ActE) (w : World) (hg : GlobT w) (hl : acs.length ≤ 9223372036854775807) (has : ActsAt w ao acs) :
    Calls Tryd.prog 5 #[.slice ao acs.length cap] w fun e w' => e = .returned (.bool true) ∧ Ext w w' := by
  have HW := worksH w hg
  cases hf : fillB acs with
  | false =>
    have HF := filledN ao cap acs w hl has hf
    clear has hf hg
    go_enter Tryd.func5, Tryd.ntmps5
    go_wp2_with (first
      | (go_at_call 12; refine HW.out.mono ?_; rintro e w1 ⟨rfl, hx1⟩)
      | (go_at_call 13; refine (HF.out _ hx1).mono ?_; rintro e w2 ⟨rfl, rfl⟩))
    go_ret
    exact ⟨rfl, hx1⟩
  | true =>
    have HF := filledY ao cap acs w hg hl has hf
    generalize weakN acs = k at *
    generalize fillR acs = R at *
    have HM := manH w 800 k R
    clear has hf hg
    go_enter Tryd.func5, Tryd.ntmps5
    go_upto_region 8 with (first
      | (go_at_call 12; refine HW.out.mono ?_; rintro e w1 ⟨rfl, hx1⟩)
      | (go_at_call 13; refine (HF.out _ hx1).mono ?_; rintro e w2 ⟨cb, sb, S, m, rfl, hU2, hx2, hS2⟩)
      | (go_at_call 17; refine (HM.out _ _ _ _ _ hx2 hU2).mono ?_; rintro e w3 ⟨a1, c1, a2, c2, rfl, hM3, hx3, hX3⟩))
    obtain ⟨W1, hW1⟩ : ∃ W1, W1 = w3.alloc (.cells #[.int .i64 m.ep, .int .i64 m.lg, .slice a1 m.nw.length c1, .slice a2 m.od.length c2] 41) := ⟨_, rfl⟩
    have hB1 : Blk W1 w3.heap.size #[.int .i64 m.ep, .int .i64 m.lg, .slice a1 m.nw.length c1, .slice a2 m.od.length c2] 41 := by rw [hW1]; exact Blk.new _ _ _
    have hx1' : Ext w3 W1 := by rw [hW1]; exact (Ext.refl _).alloc _
    have hsz1 : W1.heap.size = w3.heap.size + 1 := by rw [hW1]; simp
    have HI0 : IL W1 ((W1.alloc (.cells #[.int .i64 m.lg] 3)).drew) (.slice (some ⟨w3.heap.size + 1, 0, none⟩) 1 1) [m.lg] := by
      have := (IL.new (Ext.refl W1) m.lg).drew
      rw [hsz1] at this; exact this
    have m1 : W1.cell? ⟨w3.heap.size, 1, none⟩ = some (.int .i64 m.lg) := hB1.cell 1
    have m2 : W1.cell? ⟨w3.heap.size, 2, none⟩ = some (.slice a1 m.nw.length c1) := hB1.cell 2
    have m3 : W1.cell? ⟨w3.heap.size, 3, none⟩ = some (.slice a2 m.od.length c2) := hB1.cell 3
    have hlt1 := hB1.lt
    have HI : Hid (IL W1 ((W1.alloc (.cells #[.int .i64 m.lg] 3)).drew) (.slice (some ⟨w3.heap.size + 1, 0, none⟩) 1 1) [m.lg]) := HI0
    have HMC : Hid (∀ W, Ext W1 W → W.cell? ⟨w3.heap.size, 1, none⟩ = some (.int .i64 m.lg) ∧ W.cell? ⟨w3.heap.size, 2, none⟩ = some (.slice a1 m.nw.length c1) ∧ W.cell? ⟨w3.heap.size, 3, none⟩ = some (.slice a2 m.od.length c2)) := fun W hx => ⟨hx.cell m1, hx.cell m2, hx.cell m3⟩
    have HN : Hid (∀ W, Ext W1 W → NumsAt W a1 m.nw ∧ NumsAt W a2 m.od) := fun W hx => ⟨(hM3.1.ext hx1').ext hx, (hM3.2.ext hx1').ext hx⟩
    have hU4 := hU2.ext (hx3.trans hx1')
    have hn1 := hU4.nums.1
    have hn2 := hU4.nums.2
    obtain ⟨M, a, x, N, O, q1, hI, q3, _⟩ := hU4.ex
    have HNM : Hid ((∀ z ∈ m.lg :: (m.nw ++ m.od), 2 ≤ z ∧ z < 24) ∧ (m.lg :: (m.nw ++ m.od)).Nodup) := man_names hI.ok
    have HT : Hid (∀ W (j : Nat) (z : Int), Ext W1 W → 0 < j → (m.lg :: (m.nw ++ m.od))[j]? = some z → ∃ es : List Ent, 0 < es.length ∧ es.length ≤ 1000 ∧ Calls Tryd.prog 18 #[.pointer (some ⟨cb, 0, none⟩), .int .i64 z] W fun e w' => ∃ oo c, e = .returned (.tuple #[.slice oo es.length c, .nilIface]) ∧ Ext W w') := fun W j z hx hj hz => by
      obtain ⟨i, rfl⟩ : ∃ i, j = i + 1 := ⟨j - 1, by omega⟩
      have hz' : (m.nw ++ m.od)[i]? = some z := by simpa using hz
      have hm := List.mem_of_getElem? hz'
      obtain ⟨y, hy, hyz, hT⟩ : ∃ y : Tb, (y ∈ N ∨ y ∈ O) ∧ (y.b : Int) = z ∧ TabAt M y.b y.es := by
        rcases List.mem_append.1 hm with h | h
        · rw [hI.nw] at h
          obtain ⟨y, hy, e⟩ := List.mem_map.1 h
          exact ⟨y, .inl hy, e, hI.tn y hy⟩
        · rw [hI.od] at h
          obtain ⟨y, hy, e⟩ := List.mem_map.1 h
          exact ⟨y, .inr hy, e, hI.told y hy⟩
      subst hyz
      refine ⟨y.es, ?_, ?_, ?_⟩
      · rcases Nat.eq_zero_or_pos y.es.length with h0 | h0
        · have := hT.ok
          rw [List.eq_nil_of_length_eq_zero h0] at this
          simp [tabF] at this
        · exact h0
      · have := (tabF_zero hT.ok).2.1; omega
      · have := tabAll_any cb (y.b : Int) M W (q1.chip.ext hx)
        unfold AllEnd at this
        rw [hT.all hI.nst.up] at this
        refine this.mono fun _ _ hh => ?_
        obtain ⟨oo, c, h1, _, h3⟩ := hh
        exact ⟨oo, c, h1, h3⟩
    have hXW : Ext w W1 := hX3.trans hx1'
    rw [← hW1]
    clear HI0 hB1 hW1 hU2 hU4 hS2 hM3 hx3 hX3 q1 hI q3 HF HW HM hx1 hx2 hx1'
    have hn1' : ¬ (3 : Int) ≤ (m.nw.length : Int) := by omega
    have hn2' : ¬ (3 : Int) < (m.od.length : Int) := by omega
    go_upto_region 10 with fail
    go_cut [7] (fun s wx => ∃ ao c, s = .slice ao (m.lg :: (m.nw ++ m.od)).length c ∧ NumsAt wx ao (m.lg :: (m.nw ++ m.od)) ∧ Ext W1 wx)
    case first =>
      go_region_held3 (fun w' => w'.cell? ⟨w3.heap.size, 1, none⟩ = some (.int .i64 m.lg) ∧ w'.cell? ⟨w3.heap.size, 2, none⟩ = some (.slice a1 m.nw.length c1) ∧ w'.cell? ⟨w3.heap.size, 3, none⟩ = some (.slice a2 m.od.length c2))
        (first | (go_keep; done) | exact HMC.out _ hI2.ext | exact HMC.out _ hI1.ext)
        (first
          | (refine step_app_nums (by rfl) (.tmp 37) (.tmp 39) (by rfl) W1 _ [m.lg] (by rfl) HI.out a1 c1 m.nw (by rfl) (HN.out _ HI.out.ext).1 (by simp; omega) ?_; intro v1 w1 hI1 hg1)
          | (refine step_app_nums (by rfl) (.tmp 40) (.tmp 42) (by rfl) W1 v1 ([m.lg] ++ m.nw) (by rfl) hI1 a2 c2 m.od (by rfl) (HN.out _ hI1.ext).2 (by simp; omega) ?_; intro v2 w2 hI2 hg2))
      all_goals go_wp2
      all_goals go_meet
      obtain ⟨ao, cap, hv, ha⟩ := hI2.at
      exact ⟨ao, cap, hv, ha, hI2.ext⟩
    case rest =>
      obtain ⟨lo, lc, rfl, hN, hx⟩ := hcut
      have HNA : Hid (NumsAt wc lo (m.lg :: (m.nw ++ m.od))) := hN
      have hll : (m.lg :: (m.nw ++ m.od)).length ≤ 101 := by simp; omega
      have HTC : Hid (∀ W (j : Nat) (z : Int), Ext wc W → 0 < j → (m.lg :: (m.nw ++ m.od))[j]? = some z → ∃ es : List Ent, 0 < es.length ∧ es.length ≤ 1000 ∧ Calls Tryd.prog 18 #[.pointer (some ⟨cb, 0, none⟩), .int .i64 z] W fun e w' => ∃ oo c, e = .returned (.tuple #[.slice oo es.length c, .nilIface]) ∧ Ext W w') := fun W j z hxW => HT.out W j z (hx.trans hxW)
      have hXc := hXW.trans hx
      clear hN HT HN HMC HI m1 m2 m3 hn1 hn2 hx hXW hn1' hn2'
      generalize m.lg :: (m.nw ++ m.od) = all at *
      go_wp2_with fail
      go_loopw [8] (fun i wr => ∃ j : Nat, j ≤ all.length ∧ i = .int .i64 j ∧ Ext wc wr) (fun i _ => all.length - (intOf i).toNat)
      case atStart => exact ⟨0, Nat.zero_le _, rfl, Ext.refl _⟩
      case round =>
        obtain ⟨j, hj, rfl, hxr⟩ := hrel
        by_cases hlt : j < all.length
        · obtain ⟨b, off, z, rfl, hz, g1⟩ := (HNA.out.ext hxr).get hlt
          have hzr := HNM.out.1 z (List.mem_of_getElem? hz)
          have h2 : ¬ z < 2 := by omega
          have h24 : ¬ (24 : Int) ≤ z := by omega
          have HG1 : Hid (∀ W, Ext wr W → W.cell? ⟨b, off + j, none⟩ = some (.int .i64 z)) := fun W hx => hx.cell g1
          have HND : Hid (∀ (i : Nat) (y : Int), i < j → all[i]? = some y → ¬ y = z) := fun i y hi hy e => by
            have := HNM.out.2
            rw [List.nodup_iff_pairwise_ne, List.pairwise_iff_getElem] at this
            have h := this i j (by omega) hlt hi
            rw [List.getElem?_eq_getElem (by omega)] at hy hz
            rw [Option.some.inj hy, Option.some.inj hz] at h
            exact h e
          have HZ : Hid (all[j]? = some z) := hz
          clear hz hzr
          go_wp2_with fail
          go_loopw [9] (fun i wx => ∃ t : Nat, t ≤ j ∧ i = .int .i64 t ∧ Ext wr wx) (fun i _ => j - (intOf i).toNat)
          case atStart => exact ⟨0, Nat.zero_le _, rfl, Ext.refl _⟩
          case round =>
            obtain ⟨t, ht, rfl, hxx⟩ := hrel
            have c1 := HG1.out _ hxx
            by_cases hlt2 : t < j
            · obtain ⟨b', off', y, e1, hy, g2⟩ := (HNA.out.ext (hxr.trans hxx)).get (show t < all.length by omega)
              obtain ⟨rfl, rfl⟩ : b' = b ∧ off' = off := by simp at e1; exact ⟨e1.1.symm, e1.2.symm⟩
              have hne : ¬ y = z := HND.out t y hlt2 hy
              clear hy e1 HTC
              go_upto_region 19 with fail
              go_quiet (fail)
              go_wp2_with fail
              go_roundw
              case rel => exact ⟨t + 1, by omega, by go_num, hxx.drewN _⟩
              case measure => simp [intOf]; omega
            · by_cases hj0 : (0 : Int) < (j : Int)
              · obtain ⟨es, he0, he1, hC⟩ := HTC.out _ j z (hxr.trans hxx) (by omega) HZ.out
                have HC : Hid (Calls Tryd.prog 18 #[.pointer (some ⟨cb, 0, none⟩), .int .i64 z] wr fun e w' => ∃ oo c, e = .returned (.tuple #[.slice oo es.length c, .nilIface]) ∧ Ext wr w') := hC
                have hel : ¬ (es.length : Int) = 0 := by omega
                clear HTC hC
                go_wp2_with (go_at_call 18; refine HC.out.mono ?_; rintro e w5 ⟨oo, c5, rfl, hx5⟩)
                go_roundw
                case rel => exact ⟨j + 1, by omega, by go_num, (hxr.trans hxx).trans hx5⟩
                case measure => simp [intOf]; omega
              · clear HTC
                go_wp2_with fail
                go_roundw
                case rel => exact ⟨j + 1, by omega, by go_num, hxr.trans hxx⟩
                case measure => simp [intOf]; omega
        · clear HTC
          go_wp2_with fail
          go_ret
          exact ⟨rfl, hXc.trans hxr⟩
end Go.Proofs.YthndopokabceiaaDoor
