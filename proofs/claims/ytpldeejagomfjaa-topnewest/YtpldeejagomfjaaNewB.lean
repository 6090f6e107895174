
/- TopNewest: the walk. -/
import Derived.Test.YtpldeejagomfjaaNewA
import Derived.Test.YtpldeejagomfjaaNumT
import Derived.Deep.QuietTactic
import Derived.BigQuiet
import Derived.Deep.DeepCutAuto
namespace Go.Proofs.Ytpldeejagomfjaa
open Go.RowKit Go.WideShapes
attribute [local go_sem ↓] Go.wp_at_zero Go.wp_at_succ

set_option maxRecDepth 20000 in
set_option maxHeartbeats 4000000 in
theorem topNewest_any (ao : Option Addr) (cap : Nat) (xs : List Int) (fuse how : Int) (w : World) (hxs : NumsAt w ao xs) (hl : xs.length ≤ 9223372036854775807) :
    Calls Try.prog 16 #[.slice ao xs.length cap, .int .i64 fuse, .int .i64 how] w fun e w' => e = .returned (.bool true) ∧ Ext w w' := by
  have f15 : manFault (man 1 5) = 0 := man_ok (by decide) (by decide) (by decide) (by decide)
  have ok0 := note_nst new_nst f15 (fun m h => by cases h)
  obtain ⟨e0, s0, l0⟩ : noteE newM 0 (manTxt (man 1 5)) = 0 ∧ Nst (noteM newM 0 (manTxt (man 1 5))) (noteAt newM 0) (some (man 1 5)) ∧ (noteM newM 0 (manTxt (man 1 5))).left = -1 := by
    rcases ok0.end_ with ⟨h1, h2, h3⟩ | ⟨_, h2, _⟩
    · exact ⟨h1, h2, h3 (by decide)⟩
    · exact absurd (by decide) h2
  have hat0 : noteAt newM 0 = 0 := rfl
  rw [hat0] at s0
  have w0 : ∀ b, (noteM newM 0 (manTxt (man 1 5))).wr b ≤ 1 := fun b => ok0.wr b
  have HN0 : Hid (∀ W cb, ChipAt W cb newM → Calls Try.prog 78 #[.pointer (some ⟨cb, 0, none⟩), .int .i64 0, .agg #[.int .i64 1, .int .i64 5, .slice none 0 0, .slice none 0 0]] W fun e w' => e = .returned (.tuple #[.int .i64 0, .nilIface]) ∧ ChipAt w' cb (noteM newM 0 (manTxt (man 1 5))) ∧ W.grownBy w' (some cb)) := fun W cb hc =>
    note_well cb 0 newM 1 5 none none none 0 0 W hc (by decide) (fun b _ => by simp [newM]) new_nst f15 e0
  generalize noteM newM 0 (manTxt (man 1 5)) = M1 at *
  have HA : Hid (∀ W cb n, ChipAt W cb M1 → Calls Try.prog 37 #[.pointer (some ⟨cb, 0, none⟩), .int .i64 n] W fun e w' => e = .returned (.tuple #[]) ∧ ChipAt w' cb { M1 with left := n } ∧ W.grownBy w' (some cb)) := fun W cb n hc => arm_any cb n M1 W hc
  clear ok0 e0 hat0
  by_cases h40 : 40 < xs.length
  · have h40' : (40 : Int) < (xs.length : Int) := by omega
    clear hxs
    go_enter Try.func16, Try.ntmps16
    go_wp2_with (first
      | (go_at_call 29; refine (new_any _).mono ?_; rintro e w1 ⟨rfl, hc1, hx1, hs1⟩)
      | (go_at_call 78; refine (HN0.out _ _ hc1).mono ?_; rintro e w2 ⟨rfl, hc2, hg2⟩))
    go_ret
    exact ⟨rfl, hx1.grown hg2 (fun k hk => by cases hk; exact Nat.le_refl _)⟩
  · have h40' : ¬ (40 : Int) < (xs.length : Int) := by omega
    have HX : Hid (NumsAt w ao xs) := hxs
    clear hxs
    go_enter Try.func16, Try.ntmps16
    go_upto_region 7 with (first
      | (go_at_call 29; refine (new_any _).mono ?_; rintro e w1 ⟨rfl, hc1, hx1, hs1⟩)
      | (go_at_call 78; refine (HN0.out _ _ hc1).mono ?_; rintro e w2 ⟨rfl, hc2, hg2⟩))
    have hx2 : Ext w w2 := hx1.grown hg2 (fun k hk => by cases hk; exact Nat.le_refl _)
    clear hc1 hx1 hs1 hg2 HN0
    go_cut [6] (fun s6 wx => s6 = .bool false ∧ ∃ fz, fz ≤ 60 ∧ ChipAt wx w.heap.size { M1 with left := fz } ∧ Ext w wx)
    case first =>
      go_wp2_with (go_at_call 37; refine (HA.out _ _ _ hc2).mono ?_; rintro e w3 ⟨rfl, hc3, hg3⟩)
      all_goals go_meet
      all_goals refine ⟨rfl, _, ?_, hc3, hx2.grown hg3 (fun k hk => by cases hk; exact Nat.le_refl _)⟩
      all_goals omega
    case rest =>
      obtain ⟨rfl, fz, hfz, hc3, hx3⟩ := hcut
      clear hc2 hx2 HA
      go_wp2_with fail
      have hcl := hc3.lt
      have HT0 : TN w ((wc.alloc (.cells #[.int .i64 1, .int .i64 5, .slice none 0 0, .slice none 0 0] 100)).alloc (.cells #[.int .i64 1, .int .i64 5, .slice none 0 0, .slice none 0 0] 100)) w.heap.size wc.heap.size { M1 with left := fz } 1 5 1 5 :=
        ⟨hc3.ext (((Ext.refl _).alloc _).alloc _), (Blk.new _ _ _).alloc _, Blk.new' _ _ _ (by simp), (hx3.alloc _).alloc _, Nat.le_refl _, hcl⟩
      generalize wc.heap.size = L at *
      go_loopw [8, 12] (fun s8 i wr => ∃ (k a : Nat) (M : CM) (lg : Int), k ≤ xs.length ∧ i = .int .i64 k ∧ s8 = .int .i64 (a : Int) ∧ TN w wr w.heap.size L M (1 + (k : Int)) lg (1 + (k : Int)) lg ∧ Nst M a (some (man (1 + (k : Int)) lg)) ∧ M.left ≤ 60 ∧ (∀ b, M.wr b ≤ 1 + k) ∧ 2 ≤ lg ∧ lg < 24) (fun _ i _ => xs.length - (intOf i).toNat)
      case atStart => exact ⟨0, 0, _, 5, Nat.zero_le _, rfl, rfl, HT0, s0.keep s0.up rfl rfl rfl, hfz, fun b => w0 b, by decide, by decide⟩
      case round =>
        clear HT0 hc3 hx3 s0 w0 l0 hfz
        obtain ⟨k, a, M, lg, hk, rfl, rfl, hT, hN, hlf, hwr, hg1, hg2⟩ := hrel
        by_cases hlt : k < xs.length
        · obtain ⟨b, off, x, hao, hxk, hx0⟩ := HX.out.get hlt
          subst hao
          have x0 := hT.ext.cell hx0
          have hy : 0 ≤ bits .and .i64 x 15 ∧ bits .and .i64 x 15 < 16 := by rw [i64_and15]; omega
          obtain ⟨y, hyy⟩ : ∃ y, bits .and .i64 x 15 = y := ⟨_, rfl⟩
          rw [hyy] at hy
          have HTT : Hid (TN w wr w.heap.size L M (1 + (k : Int)) lg (1 + (k : Int)) lg) := hT
          have l0 : wr.cell? ⟨L, 0, none⟩ = some (.int .i64 (1 + (k : Int))) := hT.last.cell 0
          have n0 : wr.cell? ⟨L + 1, 0, none⟩ = some (.int .i64 (1 + (k : Int))) := hT.next.cell 0
          have n1 : wr.cell? ⟨L + 1, 1, none⟩ = some (.int .i64 lg) := hT.next.cell 1
          have n2 : wr.cell? ⟨L + 1, 2, none⟩ = some (.slice none 0 0) := hT.next.cell 2
          have n3 : wr.cell? ⟨L + 1, 3, none⟩ = some (.slice none 0 0) := hT.next.cell 3
          have f0 := hT.next.free 0
          have f1 := hT.next.free 1
          have f2 := hT.next.free 2
          have f3 := hT.next.free 3
          have hlL := hT.next.lt
          have hlL0 := hT.last.lt
          clear hx0 hxk
          go_upto_region 13 with fail
          go_region
          have hne : ∀ i : Nat, L ≠ (⟨L + 1, i, none⟩ : Addr).block := fun i => by show L ≠ L + 1; omega
          have hLc : ¬ L + 1 = w.heap.size := by have := hT.far; omega
          have hLo : w.heap.size ≤ L + 1 := by have := hT.far; omega
          have c13 := (((hT.chip.other hN.up hLc 0 (.int .i64 (1 + (k : Int) + 1))).other hN.up hLc 1 (.int .i64 (2 + y))).other hN.up hLc 2 (.slice none 0 0)).other hN.up hLc 3 (.slice none 0 0)
          have HT13 : TN w (((((wr.setCell ⟨L + 1, 0, none⟩ (.int .i64 (1 + (k : Int) + 1))).setCell ⟨L + 1, 1, none⟩ (.int .i64 (2 + y))).setCell ⟨L + 1, 2, none⟩ (.slice none 0 0)).setCell ⟨L + 1, 3, none⟩ (.slice none 0 0)).drew) w.heap.size L M (1 + (k : Int)) lg (1 + (k : Int) + 1) (2 + y) :=
            ⟨c13.ext ((Ext.refl _).drew), ((((hT.last.other (hne 0) _).other (hne 1) _).other (hne 2) _).other (hne 3) _).drew, hT.next.put4.drew, (Ext.four hT.ext hLo _ _ _ _).drew, hT.old, hT.far⟩
          clear c13 l0 n0 n1 n2 n3 f0 f1 f2 f3 hlL hlL0 x0 HTT hT
          obtain ⟨w13, hw13⟩ : ∃ w13, w13 = ((((wr.setCell ⟨L + 1, 0, none⟩ (.int .i64 (1 + (k : Int) + 1))).setCell ⟨L + 1, 1, none⟩ (.int .i64 (2 + y))).setCell ⟨L + 1, 2, none⟩ (.slice none 0 0)).setCell ⟨L + 1, 3, none⟩ (.slice none 0 0)).drew := ⟨_, rfl⟩
          rw [← hw13] at HT13 ⊢
          clear hw13
          have hk2 : (1 : Int) ≤ 1 + (k : Int) ∧ 1 + (k : Int) ≤ 42 := by omega
          have hmf : manFault (man (1 + (k : Int) + 1) (2 + y)) = 0 := man_ok (by omega) (by omega) (by omega) (by omega)
          have ok := note_nst hN hmf (fun m hm => by cases hm; show 1 + (k : Int) < 1 + (k : Int) + 1; omega)
          have n0 : w13.cell? ⟨L + 1, 0, none⟩ = some (.int .i64 (1 + (k : Int) + 1)) := HT13.next.cell 0
          have n1 : w13.cell? ⟨L + 1, 1, none⟩ = some (.int .i64 (2 + y)) := HT13.next.cell 1
          have n2 : w13.cell? ⟨L + 1, 2, none⟩ = some (.slice none 0 0) := HT13.next.cell 2
          have n3 : w13.cell? ⟨L + 1, 3, none⟩ = some (.slice none 0 0) := HT13.next.cell 3
          have HT13' : Hid (TN w w13 w.heap.size L M (1 + (k : Int)) lg (1 + (k : Int) + 1) (2 + y)) := HT13
          have HC13 := HT13.chip
          rcases ok.end_ with ⟨e9, s9, _⟩ | ⟨e9, _, s9⟩
          · have HNT : Hid (Calls Try.prog 78 #[.pointer (some ⟨w.heap.size, 0, none⟩), .int .i64 (a : Int), .agg #[.int .i64 (1 + (k : Int) + 1), .int .i64 (2 + y), .slice none 0 0, .slice none 0 0]] w13 fun e w' => e = .returned (.tuple #[.int .i64 (noteAt M a : Int), .nilIface]) ∧ ChipAt w' w.heap.size (noteM M a (manTxt (man (1 + (k : Int) + 1) (2 + y)))) ∧ w13.grownBy w' (some w.heap.size)) := note_well w.heap.size a M _ _ _ none none 0 0 w13 HC13 (by omega) (fun b _ => by have := hwr b; omega) hN hmf e9
            have hw9 := ok.wr
            have hl9 := ok.left 60 hlf (by decide)
            clear ok e9 hmf hN HC13 HT13
            generalize noteM M a (manTxt (man (1 + (k : Int) + 1) (2 + y))) = M9 at *
            generalize noteAt M a = a9 at *
            go_wp2_with (first
              | (go_at_call 78; refine HNT.out.mono ?_; rintro e w14 ⟨rfl, hc14, hg14⟩; have HT14 : Hid (TN w w14 w.heap.size L M9 (1 + (k : Int)) lg (1 + (k : Int) + 1) (2 + y)) := HT13'.out.grown hg14 hc14; clear hc14 hg14 n0 n1 n2 n3; have n0 : w14.cell? ⟨L + 1, 0, none⟩ = some (.int .i64 (1 + (k : Int) + 1)) := HT14.out.next.cell 0; have n1 : w14.cell? ⟨L + 1, 1, none⟩ = some (.int .i64 (2 + y)) := HT14.out.next.cell 1; have n2 : w14.cell? ⟨L + 1, 2, none⟩ = some (.slice none 0 0) := HT14.out.next.cell 2; have n3 : w14.cell? ⟨L + 1, 3, none⟩ = some (.slice none 0 0) := HT14.out.next.cell 3; have m0 : w14.cell? ⟨L, 0, none⟩ = some (.int .i64 (1 + (k : Int))) := HT14.out.last.cell 0; have m1 : w14.cell? ⟨L, 1, none⟩ = some (.int .i64 lg) := HT14.out.last.cell 1; have m2 : w14.cell? ⟨L, 2, none⟩ = some (.slice none 0 0) := HT14.out.last.cell 2; have m3 : w14.cell? ⟨L, 3, none⟩ = some (.slice none 0 0) := HT14.out.last.cell 3; have f0 := HT14.out.last.free 0; have f1 := HT14.out.last.free 1; have f2 := HT14.out.last.free 2; have f3 := HT14.out.last.free 3; have hlL := HT14.out.last.lt; have hlL1 := HT14.out.next.lt)
              | (go_at_call 47; refine (numT_nil _).mono ?_; rintro e w15 ⟨rfl, rfl⟩))
            go_roundw
            case rel =>
              have hT := HT14.out
              have hLc : ¬ L = w.heap.size := by have := hT.far; omega
              have hLo : w.heap.size ≤ L := by have := hT.far; omega
              have hne : ∀ i : Nat, L + 1 ≠ (⟨L, i, none⟩ : Addr).block := fun i => by show L + 1 ≠ L; omega
              refine ⟨k + 1, a9, M9, 2 + y, by omega, by go_num, rfl, ?_, ?_, hl9, fun b => by have := hw9 b; have := hwr b; omega, by omega, by omega⟩
              · rw [show 1 + ((k + 1 : Nat) : Int) = 1 + (k : Int) + 1 by omega]
                exact ⟨(((hT.chip.other s9.up hLc 0 _).other s9.up hLc 1 _).other s9.up hLc 2 _).other s9.up hLc 3 _, hT.last.put4, (((hT.next.other (hne 0) _).other (hne 1) _).other (hne 2) _).other (hne 3) _, Ext.four hT.ext hLo _ _ _ _, hT.old, hT.far⟩
              · rw [show 1 + ((k + 1 : Nat) : Int) = 1 + (k : Int) + 1 by omega]
                exact s9
            case measure => simp [intOf]; omega
          · have HNT : Hid (Calls Try.prog 78 #[.pointer (some ⟨w.heap.size, 0, none⟩), .int .i64 (a : Int), .agg #[.int .i64 (1 + (k : Int) + 1), .int .i64 (2 + y), .slice none 0 0, .slice none 0 0]] w13 fun e w' => e = .returned (.tuple #[.int .i64 0, .iface 123 (.int .i64 9)]) ∧ ChipAt w' w.heap.size (noteM M a (manTxt (man (1 + (k : Int) + 1) (2 + y)))) ∧ w13.grownBy w' (some w.heap.size)) := note_down w.heap.size a M _ _ _ none none 0 0 w13 HC13 (by omega) (fun b _ => by have := hwr b; omega) hN hmf e9
            have hw9 := ok.wr
            have HF : Hid (∀ how, ∃ a', Nst (restartM (noteM M a (manTxt (man (1 + (k : Int) + 1) (2 + y)))) how) a' (some (man (1 + (k : Int)) lg)) ∨ Nst (restartM (noteM M a (manTxt (man (1 + (k : Int) + 1) (2 + y)))) how) a' (some (man (1 + (k : Int) + 1) (2 + y)))) := s9
            clear ok e9 hmf hN HC13 HT13 s9
            have HWR : Hid (∀ b, (noteM M a (manTxt (man (1 + (k : Int) + 1) (2 + y)))).wr b ≤ 100) := fun b => by have := hw9 b; have := hwr b; omega
            generalize noteM M a (manTxt (man (1 + (k : Int) + 1) (2 + y))) = M9 at *
            clear hw9 hwr hlf
            go_upto_region 20 with (first
              | (go_at_call 78; refine HNT.out.mono ?_; rintro e w14 ⟨rfl, hc14, hg14⟩; have HT : Hid (TN w w14 w.heap.size L M9 (1 + (k : Int)) lg (1 + (k : Int) + 1) (2 + y)) := HT13'.out.grown hg14 hc14; clear hc14 hg14 n0 n1 n2 n3)
              | (go_at_call 47; refine (numT_err 9 _).mono ?_; rintro e w15 ⟨rfl, rfl⟩))
            clear HNT HT13'
            obtain ⟨a', ha'⟩ := HF.out how
            have hwr9 := HWR.out
            have HRS : Hid (∀ W, ChipAt W w.heap.size M9 → Calls Try.prog 38 #[.pointer (some ⟨w.heap.size, 0, none⟩), .int .i64 how] W fun e w' => e = .returned (.tuple #[]) ∧ ChipAt w' w.heap.size (restartM M9 how) ∧ W.grownBy w' (some w.heap.size)) := fun W hc => restart_any w.heap.size how M9 W hc (fun b _ => by have := hwr9 b; omega)
            have hrl := restart_left M9 how
            have hrw : ∀ b, (restartM M9 how).wr b ≤ 200 := fun b => by have := restart_wr M9 how b; have := hwr9 b; omega
            generalize restartM M9 how = M2 at *
            obtain ⟨ef, lf, hN2, hor, hef1, hef2⟩ : ∃ ef lf, Nst M2 a' (some (man ef lf)) ∧ ((ef = (1 + (k : Int)) ∧ lf = lg) ∨ (ef = (1 + (k : Int) + 1) ∧ lf = (2 + y))) ∧ 1 ≤ ef ∧ ef ≤ 50 := by
              rcases ha' with h | h
              · exact ⟨_, _, h, .inl ⟨rfl, rfl⟩, by omega, by omega⟩
              · exact ⟨_, _, h, .inr ⟨rfl, rfl⟩, by omega, by omega⟩
            have f9 : manFault (man (ef + 1) 9) = 0 := man_ok (by omega) (by omega) (by decide) (by decide)
            have ok9 := note_nst hN2 f9 (fun m hm => by cases hm; show ef < ef + 1; omega)
            obtain ⟨n1, n2⟩ : noteE M2 a' (manTxt (man (ef + 1) 9)) = 0 ∧ Nst (noteM M2 a' (manTxt (man (ef + 1) 9))) (noteAt M2 a') (some (man (ef + 1) 9)) := by
              rcases ok9.end_ with ⟨h1, h2, _⟩ | ⟨_, h2, _⟩
              · exact ⟨h1, h2⟩
              · exact absurd (by omega) h2
            have HFI : Hid (∀ W, ChipAt W w.heap.size M2 → Calls Try.prog 77 #[.pointer (some ⟨w.heap.size, 0, none⟩)] W fun e w' => ∃ a1 c1 a2 c2, e = .returned (.tuple #[.agg #[.int .i64 ef, .int .i64 lf, .slice a1 0 c1, .slice a2 0 c2], .int .i64 (a' : Int), .nilIface]) ∧ Ext W w') := fun W hc => find_well w.heap.size a' M2 ef lf W hc hN2
            have HNO : Hid (∀ W a1 c1 a2 c2, ChipAt W w.heap.size M2 → Calls Try.prog 78 #[.pointer (some ⟨w.heap.size, 0, none⟩), .int .i64 (a' : Int), .agg #[.int .i64 (ef + 1), .int .i64 9, .slice a1 0 c1, .slice a2 0 c2]] W fun e w' => e = .returned (.tuple #[.int .i64 (noteAt M2 a' : Int), .nilIface]) ∧ ChipAt w' w.heap.size (noteM M2 a' (manTxt (man (ef + 1) 9))) ∧ W.grownBy w' (some w.heap.size)) := fun W a1 c1 a2 c2 hc => note_well w.heap.size a' M2 (ef + 1) 9 _ a1 a2 c1 c2 W hc (by omega) (fun b _ => by have := hrw b; omega) hN2 f9 n1
            generalize noteM M2 a' (manTxt (man (ef + 1) 9)) = M3 at *
            generalize noteAt M2 a' = a'' at *
            have HF3 : Hid (∀ W, ChipAt W w.heap.size M3 → Calls Try.prog 77 #[.pointer (some ⟨w.heap.size, 0, none⟩)] W fun e w' => ∃ a1 c1 a2 c2, e = .returned (.tuple #[.agg #[.int .i64 (ef + 1), .int .i64 9, .slice a1 0 c1, .slice a2 0 c2], .int .i64 (a'' : Int), .nilIface]) ∧ Ext W w') := fun W hc => find_well w.heap.size a'' M3 (ef + 1) 9 W hc n2
            have HUP : Hid (M2.pend = none) := hN2.up
            clear hN2 ok9 n1 n2 f9 ha' hrl hrw hwr9 HF HWR
            go_upto_region 22 with (first
              | (go_at_call 38; refine (HRS.out _ HT.out.chip).mono ?_; rintro e w4 ⟨rfl, hc4, hg4⟩; have HT4 : Hid (TN w w4 w.heap.size L M2 (1 + (k : Int)) lg (1 + (k : Int) + 1) (2 + y)) := HT.out.grown hg4 hc4; clear hc4 hg4)
              | (go_at_call 77; refine (HFI.out _ HT4.out.chip).mono ?_; rintro e w5 ⟨a1, c1, a2, c2, rfl, hx5⟩; have HT5 : Hid (TN w w5 w.heap.size L M2 (1 + (k : Int)) lg (1 + (k : Int) + 1) (2 + y)) := HT4.out.more hx5; clear hx5))
            obtain ⟨w6, hw6⟩ : ∃ w6, w6 = w5.alloc (.cells #[.int .i64 ef, .int .i64 lf, .slice a1 0 c1, .slice a2 0 c2] 100) := ⟨_, rfl⟩
            rw [← hw6]
            have HT6 : Hid (TN w w6 w.heap.size L M2 (1 + (k : Int)) lg (1 + (k : Int) + 1) (2 + y)) := by rw [Hid, hw6]; exact HT5.out.more ((Ext.refl _).alloc _)
            have HD6 : Hid (Blk w6 w5.heap.size #[.int .i64 ef, .int .i64 lf, .slice a1 0 c1, .slice a2 0 c2] 100) := by rw [Hid, hw6]; exact Blk.new _ _ _
            have hD : ¬ w5.heap.size = w.heap.size := by have := HT5.out.chip.lt; omega
            have hDw : w.heap.size ≤ w5.heap.size := Nat.le_of_lt HT5.out.chip.lt
            clear hw6 HT5 HT4
            generalize w5.heap.size = D at *
            go_cut [96] (fun s wx => s = .bool false ∧ Ext w6 wx)
            case first =>
              have d0 : w6.cell? ⟨D, 0, none⟩ = some (.int .i64 ef) := HD6.out.cell 0
              have d1 : w6.cell? ⟨D, 1, none⟩ = some (.int .i64 lf) := HD6.out.cell 1
              have d2 : w6.cell? ⟨D, 2, none⟩ = some (.slice a1 0 c1) := HD6.out.cell 2
              have d3 : w6.cell? ⟨D, 3, none⟩ = some (.slice a2 0 c2) := HD6.out.cell 3
              have l0 : w6.cell? ⟨L, 0, none⟩ = some (.int .i64 (1 + (k : Int))) := HT6.out.last.cell 0
              have l1 : w6.cell? ⟨L, 1, none⟩ = some (.int .i64 lg) := HT6.out.last.cell 1
              have l2 : w6.cell? ⟨L, 2, none⟩ = some (.slice none 0 0) := HT6.out.last.cell 2
              have l3 : w6.cell? ⟨L, 3, none⟩ = some (.slice none 0 0) := HT6.out.last.cell 3
              by_cases hs : ef = (1 + (k : Int)) ∧ lf = lg
              · have HS1 : Hid (∀ W, Calls Try.prog 76 #[.agg #[.int .i64 ef, .int .i64 lf, .slice a1 0 c1, .slice a2 0 c2], .agg #[.int .i64 (1 + (k : Int)), .int .i64 lg, .slice none 0 0, .slice none 0 0]] W fun e w' => e = .returned (.bool true) ∧ Ext W w') := fun W => by
                  have := same_small ef lf (1 + (k : Int)) lg a1 a2 none none c1 c2 0 0 W
                  rw [decide_eq_true hs] at this; exact this
                clear hs hor
                go_wp2_with (go_at_call 76; refine (HS1.out _).mono ?_; rintro e w7 ⟨rfl, hx7⟩)
                go_meet
                exact ⟨rfl, hx7⟩
              · have hs2 : ef = (1 + (k : Int) + 1) ∧ lf = (2 + y) := hor.resolve_left hs
                have HS1 : Hid (∀ W, Calls Try.prog 76 #[.agg #[.int .i64 ef, .int .i64 lf, .slice a1 0 c1, .slice a2 0 c2], .agg #[.int .i64 (1 + (k : Int)), .int .i64 lg, .slice none 0 0, .slice none 0 0]] W fun e w' => e = .returned (.bool false) ∧ Ext W w') := fun W => by
                  have := same_small ef lf (1 + (k : Int)) lg a1 a2 none none c1 c2 0 0 W
                  rw [decide_eq_false hs] at this; exact this
                have HS2 : Hid (∀ W, Calls Try.prog 76 #[.agg #[.int .i64 ef, .int .i64 lf, .slice a1 0 c1, .slice a2 0 c2], .agg #[.int .i64 ((1 + (k : Int) + 1)), .int .i64 ((2 + y)), .slice none 0 0, .slice none 0 0]] W fun e w' => e = .returned (.bool true) ∧ Ext W w') := fun W => by
                  have := same_small ef lf ((1 + (k : Int) + 1)) ((2 + y)) a1 a2 none none c1 c2 0 0 W
                  rw [decide_eq_true hs2] at this; exact this
                clear hs hs2 hor
                have t1 : True := trivial
                go_wp2_with (first
                  | (go_at_call 76; have _t := t1; refine (HS1.out _).mono ?_; rintro e w7 ⟨rfl, hx7⟩; clear t1 d0 d1 d2 d3 l0 l1 l2 l3; have d0 : w7.cell? ⟨D, 0, none⟩ = some (.int .i64 ef) := (Blk.ext hx7 HD6.out).cell 0; have d1 : w7.cell? ⟨D, 1, none⟩ = some (.int .i64 lf) := (Blk.ext hx7 HD6.out).cell 1; have d2 : w7.cell? ⟨D, 2, none⟩ = some (.slice a1 0 c1) := (Blk.ext hx7 HD6.out).cell 2; have d3 : w7.cell? ⟨D, 3, none⟩ = some (.slice a2 0 c2) := (Blk.ext hx7 HD6.out).cell 3; have l0 : w7.cell? ⟨L + 1, 0, none⟩ = some (.int .i64 ((1 + (k : Int) + 1))) := (Blk.ext hx7 HT6.out.next).cell 0; have l1 : w7.cell? ⟨L + 1, 1, none⟩ = some (.int .i64 ((2 + y))) := (Blk.ext hx7 HT6.out.next).cell 1; have l2 : w7.cell? ⟨L + 1, 2, none⟩ = some (.slice none 0 0) := (Blk.ext hx7 HT6.out.next).cell 2; have l3 : w7.cell? ⟨L + 1, 3, none⟩ = some (.slice none 0 0) := (Blk.ext hx7 HT6.out.next).cell 3)
                  | (go_at_call 76; refine (HS2.out _).mono ?_; rintro e w8 ⟨rfl, hx8⟩))
                go_meet
                exact ⟨rfl, hx7.trans hx8⟩
            case rest =>
              obtain ⟨rfl, hx7⟩ := hcut
              have hB7 := Blk.ext hx7 HD6.out
              have hC7 := HT6.out.chip.ext hx7
              have hX7 := HT6.out.ext.trans hx7
              clear HT6 HD6 hx7 hor
              have d0 : _ = some (Value.int .i64 ef) := hB7.cell 0
              have d1 : _ = some (Value.int .i64 lf) := hB7.cell 1
              have d2 : _ = some (Value.slice a1 0 c1) := hB7.cell 2
              have d3 : _ = some (Value.slice a2 0 c2) := hB7.cell 3
              have k0 := hB7.free 0
              have k1 := hB7.free 1
              have hD7 := hB7.lt
              go_upto_region 27 with (go_at_call 78; refine (HNO.out _ a1 c1 a2 c2 ((hC7.other HUP.out hD 0 _).other HUP.out hD 1 _)).mono ?_; rintro e w8 ⟨rfl, hc8, hg8⟩)
              have hB8 : Hid (Blk w8 D #[.int .i64 (ef + 1), .int .i64 9, .slice a1 0 c1, .slice a2 0 c2] 100) := ((hB7.set 0 (.int .i64 (ef + 1))).set 1 (.int .i64 9)).grown hg8 hD
              have hX8 : Ext w w8 := ((hX7.set (p := ⟨D, 0, none⟩) hDw (.int .i64 (ef + 1))).set (p := ⟨D, 1, none⟩) hDw (.int .i64 9)).grown hg8 (fun k hk => by cases hk; exact Nat.le_refl _)
              have HS : Hid (∀ W b1 k1 b2 k2, Calls Try.prog 76 #[.agg #[.int .i64 (ef + 1), .int .i64 9, .slice b1 0 k1, .slice b2 0 k2], .agg #[.int .i64 (ef + 1), .int .i64 9, .slice a1 0 c1, .slice a2 0 c2]] W fun e w' => e = .returned (.bool true) ∧ Ext W w') := fun W b1 k1 b2 k2 => by
                have := same_small (ef + 1) 9 (ef + 1) 9 b1 b2 a1 a2 k1 k2 c1 c2 W
                rw [decide_eq_true ⟨rfl, rfl⟩] at this; exact this
              clear hB7 hC7 hX7 hg8 d0 d1 d2 d3 k0 k1 hD7
              go_wp2_with (first
                | (go_at_call 77; refine (HF3.out _ hc8).mono ?_; rintro e w9 ⟨b1, k1, b2, k2, rfl, hx9⟩; have g0 : w9.cell? ⟨D, 0, none⟩ = some (.int .i64 (ef + 1)) := (Blk.ext hx9 hB8.out).cell 0; have g1 : w9.cell? ⟨D, 1, none⟩ = some (.int .i64 9) := (Blk.ext hx9 hB8.out).cell 1; have g2 : w9.cell? ⟨D, 2, none⟩ = some (.slice a1 0 c1) := (Blk.ext hx9 hB8.out).cell 2; have g3 : w9.cell? ⟨D, 3, none⟩ = some (.slice a2 0 c2) := (Blk.ext hx9 hB8.out).cell 3; have hl9 := (Blk.ext hx9 hB8.out).lt; have hne9 : ¬ D = w9.heap.size := Nat.ne_of_lt hl9)
                | (go_at_call 76; refine (HS.out _ b1 k1 b2 k2).mono ?_; rintro e w10 ⟨rfl, hx10⟩))
              go_ret
              exact ⟨rfl, ((hX8.trans hx9).alloc _).trans hx10⟩
        · have HT : Hid (TN w wr w.heap.size L M (1 + (k : Int)) lg (1 + (k : Int)) lg) := hT
          have HF : Hid (∀ how, ∃ a', Nst (restartM M how) a' (some (man (1 + (k : Int)) lg)) ∨ Nst (restartM M how) a' (some (man (1 + (k : Int)) lg))) := fun how => ⟨a, .inl (by rw [restart_up how hN.up]; exact hN.keep rfl rfl rfl rfl)⟩
          have HWR : Hid (∀ b, M.wr b ≤ 100) := fun b => by have := hwr b; omega
          clear hT hN hwr
          have hk1 : (1 : Int) ≤ 1 + (k : Int) ∧ 1 + (k : Int) ≤ 45 := by omega
          generalize 1 + (k : Int) = ep at *
          obtain ⟨a', ha'⟩ := HF.out how
          have hwr9 := HWR.out
          have HRS : Hid (∀ W, ChipAt W w.heap.size M → Calls Try.prog 38 #[.pointer (some ⟨w.heap.size, 0, none⟩), .int .i64 how] W fun e w' => e = .returned (.tuple #[]) ∧ ChipAt w' w.heap.size (restartM M how) ∧ W.grownBy w' (some w.heap.size)) := fun W hc => restart_any w.heap.size how M W hc (fun b _ => by have := hwr9 b; omega)
          have hrl := restart_left M how
          have hrw : ∀ b, (restartM M how).wr b ≤ 200 := fun b => by have := restart_wr M how b; have := hwr9 b; omega
          generalize restartM M how = M2 at *
          obtain ⟨ef, lf, hN2, hor, hef1, hef2⟩ : ∃ ef lf, Nst M2 a' (some (man ef lf)) ∧ ((ef = ep ∧ lf = lg) ∨ (ef = ep ∧ lf = lg)) ∧ 1 ≤ ef ∧ ef ≤ 50 := by
            rcases ha' with h | h
            · exact ⟨_, _, h, .inl ⟨rfl, rfl⟩, by omega, by omega⟩
            · exact ⟨_, _, h, .inr ⟨rfl, rfl⟩, by omega, by omega⟩
          have f9 : manFault (man (ef + 1) 9) = 0 := man_ok (by omega) (by omega) (by decide) (by decide)
          have ok9 := note_nst hN2 f9 (fun m hm => by cases hm; show ef < ef + 1; omega)
          obtain ⟨n1, n2⟩ : noteE M2 a' (manTxt (man (ef + 1) 9)) = 0 ∧ Nst (noteM M2 a' (manTxt (man (ef + 1) 9))) (noteAt M2 a') (some (man (ef + 1) 9)) := by
            rcases ok9.end_ with ⟨h1, h2, _⟩ | ⟨_, h2, _⟩
            · exact ⟨h1, h2⟩
            · exact absurd (by omega) h2
          have HFI : Hid (∀ W, ChipAt W w.heap.size M2 → Calls Try.prog 77 #[.pointer (some ⟨w.heap.size, 0, none⟩)] W fun e w' => ∃ a1 c1 a2 c2, e = .returned (.tuple #[.agg #[.int .i64 ef, .int .i64 lf, .slice a1 0 c1, .slice a2 0 c2], .int .i64 (a' : Int), .nilIface]) ∧ Ext W w') := fun W hc => find_well w.heap.size a' M2 ef lf W hc hN2
          have HNO : Hid (∀ W a1 c1 a2 c2, ChipAt W w.heap.size M2 → Calls Try.prog 78 #[.pointer (some ⟨w.heap.size, 0, none⟩), .int .i64 (a' : Int), .agg #[.int .i64 (ef + 1), .int .i64 9, .slice a1 0 c1, .slice a2 0 c2]] W fun e w' => e = .returned (.tuple #[.int .i64 (noteAt M2 a' : Int), .nilIface]) ∧ ChipAt w' w.heap.size (noteM M2 a' (manTxt (man (ef + 1) 9))) ∧ W.grownBy w' (some w.heap.size)) := fun W a1 c1 a2 c2 hc => note_well w.heap.size a' M2 (ef + 1) 9 _ a1 a2 c1 c2 W hc (by omega) (fun b _ => by have := hrw b; omega) hN2 f9 n1
          generalize noteM M2 a' (manTxt (man (ef + 1) 9)) = M3 at *
          generalize noteAt M2 a' = a'' at *
          have HF3 : Hid (∀ W, ChipAt W w.heap.size M3 → Calls Try.prog 77 #[.pointer (some ⟨w.heap.size, 0, none⟩)] W fun e w' => ∃ a1 c1 a2 c2, e = .returned (.tuple #[.agg #[.int .i64 (ef + 1), .int .i64 9, .slice a1 0 c1, .slice a2 0 c2], .int .i64 (a'' : Int), .nilIface]) ∧ Ext W w') := fun W hc => find_well w.heap.size a'' M3 (ef + 1) 9 W hc n2
          have HUP : Hid (M2.pend = none) := hN2.up
          clear hN2 ok9 n1 n2 f9 ha' hrl hrw hwr9 HF HWR
          go_upto_region 22 with (first
            | (go_at_call 38; refine (HRS.out _ HT.out.chip).mono ?_; rintro e w4 ⟨rfl, hc4, hg4⟩; have HT4 : Hid (TN w w4 w.heap.size L M2 ep lg ep lg) := HT.out.grown hg4 hc4; clear hc4 hg4)
            | (go_at_call 77; refine (HFI.out _ HT4.out.chip).mono ?_; rintro e w5 ⟨a1, c1, a2, c2, rfl, hx5⟩; have HT5 : Hid (TN w w5 w.heap.size L M2 ep lg ep lg) := HT4.out.more hx5; clear hx5))
          obtain ⟨w6, hw6⟩ : ∃ w6, w6 = w5.alloc (.cells #[.int .i64 ef, .int .i64 lf, .slice a1 0 c1, .slice a2 0 c2] 100) := ⟨_, rfl⟩
          rw [← hw6]
          have HT6 : Hid (TN w w6 w.heap.size L M2 ep lg ep lg) := by rw [Hid, hw6]; exact HT5.out.more ((Ext.refl _).alloc _)
          have HD6 : Hid (Blk w6 w5.heap.size #[.int .i64 ef, .int .i64 lf, .slice a1 0 c1, .slice a2 0 c2] 100) := by rw [Hid, hw6]; exact Blk.new _ _ _
          have hD : ¬ w5.heap.size = w.heap.size := by have := HT5.out.chip.lt; omega
          have hDw : w.heap.size ≤ w5.heap.size := Nat.le_of_lt HT5.out.chip.lt
          clear hw6 HT5 HT4
          generalize w5.heap.size = D at *
          go_cut [96] (fun s wx => s = .bool false ∧ Ext w6 wx)
          case first =>
            have d0 : w6.cell? ⟨D, 0, none⟩ = some (.int .i64 ef) := HD6.out.cell 0
            have d1 : w6.cell? ⟨D, 1, none⟩ = some (.int .i64 lf) := HD6.out.cell 1
            have d2 : w6.cell? ⟨D, 2, none⟩ = some (.slice a1 0 c1) := HD6.out.cell 2
            have d3 : w6.cell? ⟨D, 3, none⟩ = some (.slice a2 0 c2) := HD6.out.cell 3
            have l0 : w6.cell? ⟨L, 0, none⟩ = some (.int .i64 ep) := HT6.out.last.cell 0
            have l1 : w6.cell? ⟨L, 1, none⟩ = some (.int .i64 lg) := HT6.out.last.cell 1
            have l2 : w6.cell? ⟨L, 2, none⟩ = some (.slice none 0 0) := HT6.out.last.cell 2
            have l3 : w6.cell? ⟨L, 3, none⟩ = some (.slice none 0 0) := HT6.out.last.cell 3
            by_cases hs : ef = ep ∧ lf = lg
            · have HS1 : Hid (∀ W, Calls Try.prog 76 #[.agg #[.int .i64 ef, .int .i64 lf, .slice a1 0 c1, .slice a2 0 c2], .agg #[.int .i64 ep, .int .i64 lg, .slice none 0 0, .slice none 0 0]] W fun e w' => e = .returned (.bool true) ∧ Ext W w') := fun W => by
                have := same_small ef lf ep lg a1 a2 none none c1 c2 0 0 W
                rw [decide_eq_true hs] at this; exact this
              clear hs hor
              go_wp2_with (go_at_call 76; refine (HS1.out _).mono ?_; rintro e w7 ⟨rfl, hx7⟩)
              go_meet
              exact ⟨rfl, hx7⟩
            · have hs2 : ef = ep ∧ lf = lg := hor.resolve_left hs
              have HS1 : Hid (∀ W, Calls Try.prog 76 #[.agg #[.int .i64 ef, .int .i64 lf, .slice a1 0 c1, .slice a2 0 c2], .agg #[.int .i64 ep, .int .i64 lg, .slice none 0 0, .slice none 0 0]] W fun e w' => e = .returned (.bool false) ∧ Ext W w') := fun W => by
                have := same_small ef lf ep lg a1 a2 none none c1 c2 0 0 W
                rw [decide_eq_false hs] at this; exact this
              have HS2 : Hid (∀ W, Calls Try.prog 76 #[.agg #[.int .i64 ef, .int .i64 lf, .slice a1 0 c1, .slice a2 0 c2], .agg #[.int .i64 (ep), .int .i64 (lg), .slice none 0 0, .slice none 0 0]] W fun e w' => e = .returned (.bool true) ∧ Ext W w') := fun W => by
                have := same_small ef lf (ep) (lg) a1 a2 none none c1 c2 0 0 W
                rw [decide_eq_true hs2] at this; exact this
              clear hs hs2 hor
              have t1 : True := trivial
              go_wp2_with (first
                | (go_at_call 76; have _t := t1; refine (HS1.out _).mono ?_; rintro e w7 ⟨rfl, hx7⟩; clear t1 d0 d1 d2 d3 l0 l1 l2 l3; have d0 : w7.cell? ⟨D, 0, none⟩ = some (.int .i64 ef) := (Blk.ext hx7 HD6.out).cell 0; have d1 : w7.cell? ⟨D, 1, none⟩ = some (.int .i64 lf) := (Blk.ext hx7 HD6.out).cell 1; have d2 : w7.cell? ⟨D, 2, none⟩ = some (.slice a1 0 c1) := (Blk.ext hx7 HD6.out).cell 2; have d3 : w7.cell? ⟨D, 3, none⟩ = some (.slice a2 0 c2) := (Blk.ext hx7 HD6.out).cell 3; have l0 : w7.cell? ⟨L + 1, 0, none⟩ = some (.int .i64 (ep)) := (Blk.ext hx7 HT6.out.next).cell 0; have l1 : w7.cell? ⟨L + 1, 1, none⟩ = some (.int .i64 (lg)) := (Blk.ext hx7 HT6.out.next).cell 1; have l2 : w7.cell? ⟨L + 1, 2, none⟩ = some (.slice none 0 0) := (Blk.ext hx7 HT6.out.next).cell 2; have l3 : w7.cell? ⟨L + 1, 3, none⟩ = some (.slice none 0 0) := (Blk.ext hx7 HT6.out.next).cell 3)
                | (go_at_call 76; refine (HS2.out _).mono ?_; rintro e w8 ⟨rfl, hx8⟩))
              go_meet
              exact ⟨rfl, hx7.trans hx8⟩
          case rest =>
            obtain ⟨rfl, hx7⟩ := hcut
            have hB7 := Blk.ext hx7 HD6.out
            have hC7 := HT6.out.chip.ext hx7
            have hX7 := HT6.out.ext.trans hx7
            clear HT6 HD6 hx7 hor
            have d0 : _ = some (Value.int .i64 ef) := hB7.cell 0
            have d1 : _ = some (Value.int .i64 lf) := hB7.cell 1
            have d2 : _ = some (Value.slice a1 0 c1) := hB7.cell 2
            have d3 : _ = some (Value.slice a2 0 c2) := hB7.cell 3
            have k0 := hB7.free 0
            have k1 := hB7.free 1
            have hD7 := hB7.lt
            go_upto_region 27 with (go_at_call 78; refine (HNO.out _ a1 c1 a2 c2 ((hC7.other HUP.out hD 0 _).other HUP.out hD 1 _)).mono ?_; rintro e w8 ⟨rfl, hc8, hg8⟩)
            have hB8 : Hid (Blk w8 D #[.int .i64 (ef + 1), .int .i64 9, .slice a1 0 c1, .slice a2 0 c2] 100) := ((hB7.set 0 (.int .i64 (ef + 1))).set 1 (.int .i64 9)).grown hg8 hD
            have hX8 : Ext w w8 := ((hX7.set (p := ⟨D, 0, none⟩) hDw (.int .i64 (ef + 1))).set (p := ⟨D, 1, none⟩) hDw (.int .i64 9)).grown hg8 (fun k hk => by cases hk; exact Nat.le_refl _)
            have HS : Hid (∀ W b1 k1 b2 k2, Calls Try.prog 76 #[.agg #[.int .i64 (ef + 1), .int .i64 9, .slice b1 0 k1, .slice b2 0 k2], .agg #[.int .i64 (ef + 1), .int .i64 9, .slice a1 0 c1, .slice a2 0 c2]] W fun e w' => e = .returned (.bool true) ∧ Ext W w') := fun W b1 k1 b2 k2 => by
              have := same_small (ef + 1) 9 (ef + 1) 9 b1 b2 a1 a2 k1 k2 c1 c2 W
              rw [decide_eq_true ⟨rfl, rfl⟩] at this; exact this
            clear hB7 hC7 hX7 hg8 d0 d1 d2 d3 k0 k1 hD7
            go_wp2_with (first
              | (go_at_call 77; refine (HF3.out _ hc8).mono ?_; rintro e w9 ⟨b1, k1, b2, k2, rfl, hx9⟩; have g0 : w9.cell? ⟨D, 0, none⟩ = some (.int .i64 (ef + 1)) := (Blk.ext hx9 hB8.out).cell 0; have g1 : w9.cell? ⟨D, 1, none⟩ = some (.int .i64 9) := (Blk.ext hx9 hB8.out).cell 1; have g2 : w9.cell? ⟨D, 2, none⟩ = some (.slice a1 0 c1) := (Blk.ext hx9 hB8.out).cell 2; have g3 : w9.cell? ⟨D, 3, none⟩ = some (.slice a2 0 c2) := (Blk.ext hx9 hB8.out).cell 3; have hl9 := (Blk.ext hx9 hB8.out).lt; have hne9 : ¬ D = w9.heap.size := Nat.ne_of_lt hl9)
              | (go_at_call 76; refine (HS.out _ b1 k1 b2 k2).mono ?_; rintro e w10 ⟨rfl, hx10⟩))
            go_ret
            exact ⟨rfl, ((hX8.trans hx9).alloc _).trans hx10⟩
end Go.Proofs.Ytpldeejagomfjaa
