
/- The walk of ChipSays: the long way. -/
import Derived.Test.YtpldeejagomfjaaSaysA
import Derived.Deep.RegionHeld3
namespace Go.Proofs.Ytpldeejagomfjaa
open Go.RowKit Go.WideShapes
attribute [local go_sem ↓] Go.wp_at_zero Go.wp_at_succ

set_option maxRecDepth 100000 in
set_option maxHeartbeats 8000000 in
theorem chipSays_long (ao : Option Addr) (cap : Nat) (acs : List ActE) (w : World) (hl : acs.length ≤ 100) (has : ActsAt w ao acs) (hli : lightActs acs 100 = true) :
    Calls Try.prog 4 #[.slice ao acs.length cap] w fun r w' => r = .returned (.bool true) ∧ Ext w w' := by
  go_enter Try.func4, Try.ntmps4
  go_wp2_with (first
    | (go_at_call 27; refine (chips_any _).mono ?_; rintro r w1 ⟨rfl, hx1⟩)
    | (go_at_call 28; refine (lightActs_any ao cap acs 100 _ (by omega) (by omega) (has.ext hx1)).mono ?_; rw [hli]; rintro r w4 ⟨rfl, rfl⟩)
    | (go_at_call 29; refine (new_any _).mono ?_; rintro r w5 ⟨rfl, hc5, hx5, -⟩)
    | (go_at_call 30; refine (rnew_any _).mono ?_; rintro r w6 ⟨rfl, hr6, hx6, -⟩))
  have hcb : w.heap.size ≤ w4.heap.size := hx1.size
  have hrb : w.heap.size ≤ w5.heap.size := (hx1.trans hx5).size
  have hc6 := hc5.ext hx6
  have hxx := (hx1.trans hx5).trans hx6
  clear hx1 hc5 hx5 hx6
  generalize w4.heap.size = cb at *
  generalize w5.heap.size = rb at *
  go_loopw [6] (fun i wx => ∃ (k : Nat) (M : CM), k ≤ acs.length ∧ i = .int .i64 k ∧ ChipAt wx cb M ∧ RefAt wx rb M ∧ Far M k ∧ Ext w wx) (fun i _ => acs.length - (intOf i).toNat)
  case atStart => exact ⟨0, newM, Nat.zero_le _, rfl, hc6, hr6, newFar, hxx⟩
  case round =>
    clear hc6 hr6 hxx hli
    obtain ⟨k, M, hk, rfl, hc, hr, hf, hx⟩ := hrel
    by_cases hlt : k < acs.length
    · obtain ⟨b, off, ⟨kind, s, A, B, es, eo, ec⟩, rfl, he, c0, c1, c2, c3, c4, c5⟩ := has.get hlt
      dsimp only at c0 c1 c2 c3 c4
      have hbl := lt_of_cell2 c0
      have g0 := hx.cell c0
      have g1 := hx.cell c1
      have g2 := hx.cell c2
      have g3 := hx.cell c3
      have g4 := hx.cell c4
      have hsz := hx.size
      have hk0 : (0 : Int) ≤ (k : Int) := by omega
      have hk1 : (k : Int) < (acs.length : Int) := by omega
      have hes : s.size ≤ 9223372036854775807 := c5.sz
      have hA1 : A ≤ 9223372036854775807 := c5.a1
      have hub := hf.left
      have hwr := hf.ok (show k ≤ 1000000000 by omega)
      have hm := hc.mok
      have hcl : cb < wr.heap.size := by obtain ⟨⟨cs', fv, k1, _⟩, _⟩ := hc; exact k1.lt
      have hrl : rb < wr.heap.size := by obtain ⟨cs', fv, k1, _⟩ := hr.cells; exact k1.lt
      have habc : ¬ wr.heap.size = cb := by omega
      have habr : ¬ wr.heap.size = rb := by omega
      have hcn := hc.ext ((Ext.refl wr).alloc (.cells #[.string kind, .string s, .int .i64 A, .int .i64 B, .slice eo es.length ec] 49))
      have hrn := hr.ext ((Ext.refl wr).alloc (.cells #[.string kind, .string s, .int .i64 A, .int .i64 B, .slice eo es.length ec] 49))
      have hxn := hx.alloc (.cells #[.string kind, .string s, .int .i64 A, .int .i64 B, .slice eo es.length ec] 49)
      have hBn : Blk (wr.alloc (.cells #[.string kind, .string s, .int .i64 A, .int .i64 B, .slice eo es.length ec] 49)) wr.heap.size (actV ⟨kind, s, A, B, es, eo, ec⟩) 49 := Blk.new _ _ _
      clear c0 c1 c2 c3 c4 c5 he has hc hr hx
      by_cases hkw : (kind.toList == [119, 114, 105, 116, 101]) = true
      · go_wp2_with fail
        generalize wr.alloc (.cells #[.string kind, .string s, .int .i64 A, .int .i64 B, .slice eo es.length ec] 49) = wn at *
        generalize wr.heap.size = ab at *
        clear g0 g1 g2 g3 g4
        have hBd := hBn.drew
        have hcd := hcn.ext ((Ext.refl wn).drew)
        have hrd := hrn.ext ((Ext.refl wn).drew)
        have CW : Hid (Calls Try.prog 31 #[.pointer (some ⟨cb, 0, none⟩), .int .i64 A, .string s] wn.drew fun e w' => e = .returned (errV (writeE M A s)) ∧ ChipAt w' cb (writeM M A s) ∧ wn.drew.grownBy w' (some cb)) := write_any cb A s M _ hcd hub hes
        have RW : Hid (∀ wq, RefAt wq rb M → Calls Try.prog 32 #[.pointer (some ⟨rb, 0, none⟩), .int .i64 A, .string s] wq fun e w' => e = .returned (.int .i64 (writeE M A s)) ∧ RefAt w' rb (writeM M A s) ∧ wq.grownBy w' (some rb)) := fun wq hq => rwrite_any rb A s M _ hq hm hub hes
        have SW : Hid (∀ wq, Calls Try.prog 19 #[errV (writeE M A s), .int .i64 (writeE M A s)] wq fun e w' => e = .returned (.bool true) ∧ w' = wq) := fun wq => same_self _ (writeE_ge M A s) wq
        have hfz : Far (writeM M A s) (k + 1) := (hf.write A s).mono (Nat.le_succ k)
        generalize writeE M A s = ee at *
        generalize writeM M A s = Mz at *
        generalize errV ee = ev at *
        go_region_held3 (fun w' => w'.cell? ⟨ab, 1, none⟩ = some (.string s) ∧ w'.cell? ⟨ab, 2, none⟩ = some (.int .i64 A))
          (first | exact ⟨(act_cells hB3).2.1, (act_cells hB3).2.2.1⟩ | exact ⟨(act_cells hB2).2.1, (act_cells hB2).2.2.1⟩ | exact ⟨(act_cells hBd).2.1, (act_cells hBd).2.2.1⟩)
          (first
            | (go_at_call 31; refine (CW.out).mono ?_; rintro r w2 ⟨rfl, hc2, hg2⟩; have hB2 := hBd.grown hg2 habc; have hr2 := hrd.chip hcd hg2)
            | (go_at_call 32; refine (RW.out _ hr2).mono ?_; rintro r w3 ⟨rfl, hr3, hg3⟩; have hB3 := hB2.grown hg3 habr; have hc3 := hc2.refs hr2 hg3)
            | (go_at_call 19; refine (SW.out _).mono ?_; rintro r wy ⟨rfl, hwy⟩; subst wy)
            | fail)
        have hBz := hB3
        have hcz := hc3
        have hrz := hr3
        have hxy : Ext w w3 := (hxn.drew.grown2 hg2 hcb).grown2 hg3 hrb
        clear hcn hrn hxn hBn hBd hcd hrd hB2 hr2 hB3 hc3 hc2 hr3 hg2 hg3 hf CW RW SW
        obtain ⟨_, _, t2, t3, _⟩ := act_cells hBz
        dsimp only at t2 t3
        have HG : Hid (0 ≤ (readR Mz A B).2) := readR_ge Mz A B
        go_wp2_with (first
          | (go_at_call 40; refine (read_any cb A B Mz _ hcz).mono ?_; rintro r wy ⟨rfl, hwy⟩; subst wy)
          | (go_at_call 41; refine (rread_any rb A B Mz _ hrz).mono ?_; rintro r wy ⟨rfl, hwy⟩; subst wy)
          | (go_at_call 19; refine (same_self _ HG.out _).mono ?_; rintro r wy ⟨rfl, hwy⟩; subst wy)
          | (go_at_call 42; refine (asChip_any cb rb Mz _ hcz hrz).mono ?_; rintro r wz ⟨rfl, hxz⟩))
        go_roundw
        case rel => exact ⟨k + 1, Mz, by omega, by go_num, hcz.ext hxz, hrz.ext hxz, hfz, hxy.trans hxz⟩
        case measure => simp [intOf]; omega
      · have hkw' : (kind.toList == [119, 114, 105, 116, 101]) = false := by simpa using hkw
        clear hkw
        by_cases hke : (kind.toList == [101, 114, 97, 115, 101]) = true
        · go_wp2_with fail
          generalize wr.alloc (.cells #[.string kind, .string s, .int .i64 A, .int .i64 B, .slice eo es.length ec] 49) = wn at *
          generalize wr.heap.size = ab at *
          clear g0 g1 g2 g3 g4
          have hBd := hBn.drew
          have hcd := hcn.ext ((Ext.refl wn).drew)
          have hrd := hrn.ext ((Ext.refl wn).drew)
          have CW : Hid (Calls Try.prog 33 #[.pointer (some ⟨cb, 0, none⟩), .int .i64 A] wn.drew fun e w' => e = .returned (errV (eraseE M A)) ∧ ChipAt w' cb (eraseM M A) ∧ wn.drew.grownBy w' (some cb)) := erase_any cb A M _ hcd hub hwr
          have RW : Hid (∀ wq, RefAt wq rb M → Calls Try.prog 34 #[.pointer (some ⟨rb, 0, none⟩), .int .i64 A] wq fun e w' => e = .returned (.int .i64 (eraseE M A)) ∧ RefAt w' rb (eraseM M A) ∧ wq.grownBy w' (some rb)) := fun wq hq => rerase_any rb A M _ hq hub hwr
          have SW : Hid (∀ wq, Calls Try.prog 19 #[errV (eraseE M A), .int .i64 (eraseE M A)] wq fun e w' => e = .returned (.bool true) ∧ w' = wq) := fun wq => same_self _ (eraseE_ge M A) wq
          have hfz : Far (eraseM M A) (k + 1) := hf.erase A
          generalize eraseE M A = ee at *
          generalize eraseM M A = Mz at *
          generalize errV ee = ev at *
          go_region_held3 (fun w' => w'.cell? ⟨ab, 1, none⟩ = some (.string s) ∧ w'.cell? ⟨ab, 2, none⟩ = some (.int .i64 A))
            (first | exact ⟨(act_cells hB3).2.1, (act_cells hB3).2.2.1⟩ | exact ⟨(act_cells hB2).2.1, (act_cells hB2).2.2.1⟩ | exact ⟨(act_cells hBd).2.1, (act_cells hBd).2.2.1⟩)
            (first
              | (go_at_call 33; refine (CW.out).mono ?_; rintro r w2 ⟨rfl, hc2, hg2⟩; have hB2 := hBd.grown hg2 habc; have hr2 := hrd.chip hcd hg2)
              | (go_at_call 34; refine (RW.out _ hr2).mono ?_; rintro r w3 ⟨rfl, hr3, hg3⟩; have hB3 := hB2.grown hg3 habr; have hc3 := hc2.refs hr2 hg3)
              | (go_at_call 19; refine (SW.out _).mono ?_; rintro r wy ⟨rfl, hwy⟩; subst wy)
              | fail)
          have hBz := hB3
          have hcz := hc3
          have hrz := hr3
          have hxy : Ext w w3 := (hxn.drew.grown2 hg2 hcb).grown2 hg3 hrb
          clear hcn hrn hxn hBn hBd hcd hrd hB2 hr2 hB3 hc3 hc2 hr3 hg2 hg3 hf CW RW SW
          obtain ⟨_, _, t2, t3, _⟩ := act_cells hBz
          dsimp only at t2 t3
          have HG : Hid (0 ≤ (readR Mz A B).2) := readR_ge Mz A B
          go_wp2_with (first
            | (go_at_call 40; refine (read_any cb A B Mz _ hcz).mono ?_; rintro r wy ⟨rfl, hwy⟩; subst wy)
            | (go_at_call 41; refine (rread_any rb A B Mz _ hrz).mono ?_; rintro r wy ⟨rfl, hwy⟩; subst wy)
            | (go_at_call 19; refine (same_self _ HG.out _).mono ?_; rintro r wy ⟨rfl, hwy⟩; subst wy)
            | (go_at_call 42; refine (asChip_any cb rb Mz _ hcz hrz).mono ?_; rintro r wz ⟨rfl, hxz⟩))
          go_roundw
          case rel => exact ⟨k + 1, Mz, by omega, by go_num, hcz.ext hxz, hrz.ext hxz, hfz, hxy.trans hxz⟩
          case measure => simp [intOf]; omega
        · have hke' : (kind.toList == [101, 114, 97, 115, 101]) = false := by simpa using hke
          clear hke
          by_cases hkk : (kind.toList == [119, 101, 97, 107, 101, 110]) = true
          · go_wp2_with fail
            generalize wr.alloc (.cells #[.string kind, .string s, .int .i64 A, .int .i64 B, .slice eo es.length ec] 49) = wn at *
            generalize wr.heap.size = ab at *
            clear g0 g1 g2 g3 g4
            have hBd := hBn.drew
            have hcd := hcn.ext ((Ext.refl wn).drew)
            have hrd := hrn.ext ((Ext.refl wn).drew)
            have CW : Hid (Calls Try.prog 35 #[.pointer (some ⟨cb, 0, none⟩), .int .i64 A] wn.drew fun e w' => e = .returned (errV (weakenE A)) ∧ ChipAt w' cb (weakenM M A) ∧ wn.drew.grownBy w' (some cb)) := weaken_any cb A M _ hcd
            have RW : Hid (∀ wq, RefAt wq rb M → Calls Try.prog 36 #[.pointer (some ⟨rb, 0, none⟩), .int .i64 A] wq fun e w' => e = .returned (.int .i64 (weakenE A)) ∧ RefAt w' rb (weakenM M A) ∧ wq.grownBy w' (some rb)) := fun wq hq => rweaken_any rb A M _ hq
            have SW : Hid (∀ wq, Calls Try.prog 19 #[errV (weakenE A), .int .i64 (weakenE A)] wq fun e w' => e = .returned (.bool true) ∧ w' = wq) := fun wq => same_self _ (weakenE_ge A) wq
            have hfz : Far (weakenM M A) (k + 1) := (hf.weaken A).mono (Nat.le_succ k)
            generalize weakenE A = ee at *
            generalize weakenM M A = Mz at *
            generalize errV ee = ev at *
            go_region_held3 (fun w' => w'.cell? ⟨ab, 1, none⟩ = some (.string s) ∧ w'.cell? ⟨ab, 2, none⟩ = some (.int .i64 A))
              (first | exact ⟨(act_cells hB3).2.1, (act_cells hB3).2.2.1⟩ | exact ⟨(act_cells hB2).2.1, (act_cells hB2).2.2.1⟩ | exact ⟨(act_cells hBd).2.1, (act_cells hBd).2.2.1⟩)
              (first
                | (go_at_call 35; refine (CW.out).mono ?_; rintro r w2 ⟨rfl, hc2, hg2⟩; have hB2 := hBd.grown hg2 habc; have hr2 := hrd.chip hcd hg2)
                | (go_at_call 36; refine (RW.out _ hr2).mono ?_; rintro r w3 ⟨rfl, hr3, hg3⟩; have hB3 := hB2.grown hg3 habr; have hc3 := hc2.refs hr2 hg3)
                | (go_at_call 19; refine (SW.out _).mono ?_; rintro r wy ⟨rfl, hwy⟩; subst wy)
                | fail)
            have hBz := hB3
            have hcz := hc3
            have hrz := hr3
            have hxy : Ext w w3 := (hxn.drew.grown2 hg2 hcb).grown2 hg3 hrb
            clear hcn hrn hxn hBn hBd hcd hrd hB2 hr2 hB3 hc3 hc2 hr3 hg2 hg3 hf CW RW SW
            obtain ⟨_, _, t2, t3, _⟩ := act_cells hBz
            dsimp only at t2 t3
            have HG : Hid (0 ≤ (readR Mz A B).2) := readR_ge Mz A B
            go_wp2_with (first
              | (go_at_call 40; refine (read_any cb A B Mz _ hcz).mono ?_; rintro r wy ⟨rfl, hwy⟩; subst wy)
              | (go_at_call 41; refine (rread_any rb A B Mz _ hrz).mono ?_; rintro r wy ⟨rfl, hwy⟩; subst wy)
              | (go_at_call 19; refine (same_self _ HG.out _).mono ?_; rintro r wy ⟨rfl, hwy⟩; subst wy)
              | (go_at_call 42; refine (asChip_any cb rb Mz _ hcz hrz).mono ?_; rintro r wz ⟨rfl, hxz⟩))
            go_roundw
            case rel => exact ⟨k + 1, Mz, by omega, by go_num, hcz.ext hxz, hrz.ext hxz, hfz, hxy.trans hxz⟩
            case measure => simp [intOf]; omega
          · have hkk' : (kind.toList == [119, 101, 97, 107, 101, 110]) = false := by simpa using hkk
            clear hkk
            by_cases hka : (kind.toList == [97, 114, 109]) = true
            · go_wp2_with fail
              generalize wr.alloc (.cells #[.string kind, .string s, .int .i64 A, .int .i64 B, .slice eo es.length ec] 49) = wn at *
              generalize wr.heap.size = ab at *
              clear g0 g1 g2 g3 g4
              refine (arm_any cb A M _ hcn).mono ?_
              rintro r w2 ⟨rfl, hc2, hg2⟩
              have hB2 := hBn.grown hg2 habc
              have hr2 := hrn.chip hcn hg2
              obtain ⟨_, _, q2, q3, _⟩ := act_cells hB2
              dsimp only at q2 q3
              obtain ⟨_, _, r96, _, rf, _⟩ := hr2.tail
              have rf96 := rf 96
              have hrz := hr2.arm A
              have hcz := hc2.refs hr2 (grow_set w2 rb 96 (.int .i64 (max A (-1))))
              have hBz := hB2.grown (grow_set w2 rb 96 (.int .i64 (max A (-1)))) habr
              have hxy := (hxn.grown2 hg2 hcb).grown2 (grow_set w2 rb 96 (.int .i64 (max A (-1)))) hrb
              have hfz : Far { M with left := A } (k + 1) := (hf.arm A hA1).mono (Nat.le_succ k)
              clear hcn hrn hxn hBn hc2 hg2 hB2 hr2 rf hf hub hwr hm
              generalize max M.left (-1) = z at *
              generalize ({ M with left := A } : CM) = Mz at *
              go_wp2_with fail
              all_goals
                first
                  | (have e : max A (-1) = -1 := by omega
                     rw [e] at hrz hcz hBz hxy
                     generalize w2.setCell ⟨rb, 96, none⟩ (.int .i64 (-1)) = w3 at *)
                  | (have e : max A (-1) = A := by omega
                     rw [e] at hrz hcz hBz hxy
                     generalize w2.setCell ⟨rb, 96, none⟩ (.int .i64 A) = w3 at *)
                clear q2 q3 r96 rf96
                obtain ⟨_, _, t2, t3, _⟩ := act_cells hBz
                dsimp only at t2 t3
                have HG : Hid (0 ≤ (readR Mz A B).2) := readR_ge Mz A B
                go_wp2_with (first
                  | (go_at_call 40; refine (read_any cb A B Mz _ hcz).mono ?_; rintro r wy ⟨rfl, hwy⟩; subst wy)
                  | (go_at_call 41; refine (rread_any rb A B Mz _ hrz).mono ?_; rintro r wy ⟨rfl, hwy⟩; subst wy)
                  | (go_at_call 19; refine (same_self _ HG.out _).mono ?_; rintro r wy ⟨rfl, hwy⟩; subst wy)
                  | (go_at_call 42; refine (asChip_any cb rb Mz _ hcz hrz).mono ?_; rintro r wz ⟨rfl, hxz⟩))
                go_roundw
                case rel => exact ⟨k + 1, Mz, by omega, by go_num, hcz.ext hxz, hrz.ext hxz, hfz, hxy.trans hxz⟩
                case measure => simp [intOf]; omega
            · have hka' : (kind.toList == [97, 114, 109]) = false := by simpa using hka
              clear hka
              by_cases hks : (kind.toList == [114, 101, 115, 116, 97, 114, 116]) = true
              · go_wp2_with fail
                generalize wr.alloc (.cells #[.string kind, .string s, .int .i64 A, .int .i64 B, .slice eo es.length ec] 49) = wn at *
                generalize wr.heap.size = ab at *
                clear g0 g1 g2 g3 g4
                refine (restart_any cb A M _ hcn hwr).mono ?_
                rintro r w2 ⟨rfl, hc2, hg2⟩
                have hB2 := hBn.grown hg2 habc
                have hr2 := hrn.chip hcn hg2
                obtain ⟨_, _, q2, q3, _⟩ := act_cells hB2
                dsimp only at q2 q3
                go_wp2_with fail
                refine (rrestart_any rb A M _ hr2 hm hwr).mono ?_
                rintro r w3 ⟨rfl, hrz, hg3⟩
                have hBz := hB2.grown hg3 habr
                have hcz := hc2.refs hr2 hg3
                have hfz : Far (restartM M A) (k + 1) := hf.restart A
                have hxy : Ext w w3 := (hxn.grown2 hg2 hcb).grown2 hg3 hrb
                clear hcn hrn hxn hBn hB2 hr2 hc2 hg2 hg3 hf q2 q3
                generalize restartM M A = Mz at *
                obtain ⟨_, _, t2, t3, _⟩ := act_cells hBz
                dsimp only at t2 t3
                have HG : Hid (0 ≤ (readR Mz A B).2) := readR_ge Mz A B
                go_wp2_with (first
                  | (go_at_call 40; refine (read_any cb A B Mz _ hcz).mono ?_; rintro r wy ⟨rfl, hwy⟩; subst wy)
                  | (go_at_call 41; refine (rread_any rb A B Mz _ hrz).mono ?_; rintro r wy ⟨rfl, hwy⟩; subst wy)
                  | (go_at_call 19; refine (same_self _ HG.out _).mono ?_; rintro r wy ⟨rfl, hwy⟩; subst wy)
                  | (go_at_call 42; refine (asChip_any cb rb Mz _ hcz hrz).mono ?_; rintro r wz ⟨rfl, hxz⟩))
                go_roundw
                case rel => exact ⟨k + 1, Mz, by omega, by go_num, hcz.ext hxz, hrz.ext hxz, hfz, hxy.trans hxz⟩
                case measure => simp [intOf]; omega
              · have hks' : (kind.toList == [114, 101, 115, 116, 97, 114, 116]) = false := by simpa using hks
                clear hks
                have hBz := hBn
                obtain ⟨_, _, t2, t3, _⟩ := act_cells hBz
                dsimp only at t2 t3
                have hfz := hf.mono (Nat.le_succ k)
                have HG : Hid (0 ≤ (readR M A B).2) := readR_ge M A B
                go_wp2_with fail
                generalize wr.alloc (.cells #[.string kind, .string s, .int .i64 A, .int .i64 B, .slice eo es.length ec] 49) = wn at *
                generalize wr.heap.size = ab at *
                clear g0 g1 g2 g3 g4
                refine (read_any cb A B M _ hcn).mono ?_
                rintro r wy ⟨rfl, hwy⟩
                subst wy
                go_wp2_with (first
                  | (go_at_call 41; refine (rread_any rb A B M _ hrn).mono ?_; rintro r wy ⟨rfl, hwy⟩; subst wy)
                  | (go_at_call 19; refine (same_self _ HG.out _).mono ?_; rintro r wy ⟨rfl, hwy⟩; subst wy)
                  | (go_at_call 42; refine (asChip_any cb rb M _ hcn hrn).mono ?_; rintro r wz ⟨rfl, hxz⟩))
                go_roundw
                case rel => exact ⟨k + 1, M, by omega, by go_num, hcn.ext hxz, hrn.ext hxz, hfz, hxn.trans hxz⟩
                case measure => simp [intOf]; omega
    · clear has
      go_wp2_with fail
      go_ret
      exact ⟨rfl, hx⟩
end Go.Proofs.Ytpldeejagomfjaa
