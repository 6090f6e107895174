
/- TopManifest: the walk. -/
import Derived.Test.YtpldeejagomfjaaManF
import Derived.Test.YtpldeejagomfjaaNumT
namespace Go.Proofs.Ytpldeejagomfjaa
open Go.RowKit Go.WideShapes

theorem bytes15 (w : World) : Calls Try.prog 70 #[.agg #[.int .i64 1, .int .i64 5, .slice none 0 0, .slice none 0 0]] w fun e w' => (∃ t : ByteArray, e = .returned (.tuple #[.string t, .nilIface]) ∧ t.size = 7) ∧ Ext w w' := by
  have := manBytes_ok 1 5 none none 0 0 [] [] w (by simp) (NumsAt.nil w none) (NumsAt.nil w none) (by decide)
  refine this.mono ?_
  rintro e w' ⟨rfl, hx⟩
  exact ⟨⟨_, rfl, by rfl⟩, hx⟩
theorem txtM_snoc (l : List UInt8) (k : Nat) : txtM (l ++ List.replicate k 0) ++ ⟨#[0]⟩ = txtM (l ++ List.replicate (k + 1) 0) := by
  have h : ∀ {a b : ByteArray}, a.data.toList = b.data.toList → a = b := fun {a b} h => by cases a; cases b; simp only [ByteArray.mk.injEq]; exact Array.toList_inj.1 h
  apply h
  simp [txtM, List.replicate_succ']
theorem i64_and31 (n : Int) : bits .and .i64 n 31 = n % 32 := by
  have h31 : (BitVec.ofInt 64 31).toNat = 2 ^ 5 - 1 := by decide
  have key : (BitVec.ofInt 64 n &&& BitVec.ofInt 64 31).toNat = (n % ((2 ^ 64 : Nat) : Int)).toNat % 2 ^ 5 := by
    rw [BitVec.toNat_and, BitVec.toNat_ofInt, h31, Nat.and_two_pow_sub_one_eq_mod]
  show IntKind.i64.wrap ((BitVec.ofInt 64 n &&& BitVec.ofInt 64 31).toNat : Nat) = n % 32
  rw [key, IntKind.wrap_i64]
  omega

set_option maxRecDepth 20000 in
set_option maxHeartbeats 2000000 in
theorem topManifest_any (ep lg : Int) (no oo : Option Addr) (nc oc : Nat) (nw od : List Int) (n : Int) (w : World) (hn : NumsAt w no nw) (ho : NumsAt w oo od) :
    Calls Try.prog 15 #[.agg #[.int .i64 ep, .int .i64 lg, .slice no nw.length nc, .slice oo od.length oc], .int .i64 n] w fun e w' => e = .returned (.bool true) ∧ Ext w w' := by
  have HB : Hid (∀ W, Ext (w.alloc (.cells #[.int .i64 ep, .int .i64 lg, .slice no nw.length nc, .slice oo od.length oc] 100)) W → Blk W w.heap.size #[.int .i64 ep, .int .i64 lg, .slice no nw.length nc, .slice oo od.length oc] 100) := fun W hx => Blk.ext hx (Blk.new _ _ _)
  have hx0 : Ext w (w.alloc (.cells #[.int .i64 ep, .int .i64 lg, .slice no nw.length nc, .slice oo od.length oc] 100)) := (Ext.refl w).alloc _
  by_cases hL : nw.length ≤ 30 ∧ od.length ≤ 30
  · obtain ⟨hL1, hL2⟩ := hL
    have HLT : Hid (∀ W, Calls Try.prog 69 #[.agg #[.int .i64 ep, .int .i64 lg, .slice no nw.length nc, .slice oo od.length oc]] W fun e w' => e = .returned (.bool true) ∧ Ext W w') := fun W => lightM_yes ep lg no oo nc oc nw od W hL1 hL2
    by_cases hf : manF ep lg nw od = 0
    · obtain ⟨hE, hS⟩ := manF_zero hf
      obtain ⟨hr, hnd, _⟩ := scan_zero hS
      have h24 := nodup_le hr hnd
      have hG := hr lg (by simp)
      obtain ⟨E, rfl⟩ := Int.eq_ofNat_of_zero_le (show 0 ≤ ep by omega)
      obtain ⟨G, rfl⟩ := Int.eq_ofNat_of_zero_le (show 0 ≤ lg by omega)
      have hle : nw.length + od.length ≤ 23 := by simp at h24; omega
      have HBY : Hid (∀ W, Ext w W → Calls Try.prog 70 #[.agg #[.int .i64 (E : Int), .int .i64 (G : Int), .slice no nw.length nc, .slice oo od.length oc]] W fun e w' => e = .returned (.tuple #[.string (txtM (encM (E : Int) (G : Int) nw od)), .nilIface]) ∧ Ext W w') := fun W hx => manBytes_ok E G no oo nc oc nw od W (by omega) (hn.ext hx) (ho.ext hx) hf
      have HF : Hid (manF (E : Int) (G : Int) nw od = 0) := hf
      have hsz0 := encM_size (E : Int) (G : Int) nw od 0
      simp only [List.replicate_zero, List.append_nil] at hsz0
      obtain ⟨T0, hT0⟩ : ∃ T, txtM (encM (E : Int) (G : Int) nw od) = T := ⟨_, rfl⟩
      have HT0 : Hid (txtM (encM (E : Int) (G : Int) nw od) = T0) := hT0
      rw [hT0] at HBY hsz0
      clear hf hS hr hnd h24 hG hE hT0
      go_enter Try.func15, Try.ntmps15
      go_wp2_with (first
        | (go_at_call_of 70 (Value.agg #[.int .i64 1, .int .i64 5, .slice none 0 0, .slice none 0 0]); refine (bytes15 _).mono ?_; rintro e w1 ⟨⟨t7, rfl, ht7⟩, hx1⟩; have m0 : World.cell? w1 ⟨w.heap.size, 0, none⟩ = some (.int .i64 (E : Int)) := (HB.out _ hx1).cell 0; have m1 : World.cell? w1 ⟨w.heap.size, 1, none⟩ = some (.int .i64 (G : Int)) := (HB.out _ hx1).cell 1; have m2 : World.cell? w1 ⟨w.heap.size, 2, none⟩ = some (.slice no nw.length nc) := (HB.out _ hx1).cell 2; have m3 : World.cell? w1 ⟨w.heap.size, 3, none⟩ = some (.slice oo od.length oc) := (HB.out _ hx1).cell 3)
        | (go_at_call 69; refine (HLT.out _).mono ?_; rintro e w2 ⟨rfl, hx2'⟩; have hx2 := hx1.trans hx2'; clear hx2'; clear m0 m1 m2 m3; have m0 : World.cell? w2 ⟨w.heap.size, 0, none⟩ = some (.int .i64 (E : Int)) := (HB.out _ hx2).cell 0; have m1 : World.cell? w2 ⟨w.heap.size, 1, none⟩ = some (.int .i64 (G : Int)) := (HB.out _ hx2).cell 1; have m2 : World.cell? w2 ⟨w.heap.size, 2, none⟩ = some (.slice no nw.length nc) := (HB.out _ hx2).cell 2; have m3 : World.cell? w2 ⟨w.heap.size, 3, none⟩ = some (.slice oo od.length oc) := (HB.out _ hx2).cell 3)
        | (go_at_call 70; refine (HBY.out _ (hx0.trans hx2)).mono ?_; rintro e w3 ⟨rfl, hx3'⟩; have hx3 := hx2.trans hx3'; clear hx3'; clear m0 m1 m2 m3))
      obtain ⟨M, hM⟩ : ∃ M : Nat, n % 32 = (M : Int) := ⟨(n % 32).toNat, by omega⟩
      have hM2 : M < 32 := by omega
      have h31 : bits .and .i64 n 31 = (M : Int) := by rw [i64_and31, hM]
      have hx3w := hx0.trans hx3
      clear hM hx2 hx1
      go_loop [5, 7] (fun t i => ∃ (k : Nat), k ≤ M ∧ i = .int .i64 k ∧ t = .string (txtM (encM (E : Int) (G : Int) nw od ++ List.replicate k 0))) (fun _ i => M - (intOf i).toNat)
      case atStart => exact ⟨0, Nat.zero_le _, rfl, by rw [← HT0.out]; simp⟩
      case round =>
        obtain ⟨k, hk, rfl, rfl⟩ := hrel
        have HS : Hid (txtM (encM (E : Int) (G : Int) nw od ++ List.replicate k 0) ++ ⟨#[0]⟩ = txtM (encM (E : Int) (G : Int) nw od ++ List.replicate (k + 1) 0)) := txtM_snoc _ _
        have hsz := encM_size (E : Int) (G : Int) nw od k
        have HP : Hid (∀ W, Calls Try.prog 72 #[.string (txtM (encM (E : Int) (G : Int) nw od ++ List.replicate k 0))] W fun e w' => ∃ a1 c1 a2 c2, e = .returned (.tuple #[.agg #[.int .i64 (E : Int), .int .i64 (G : Int), .slice a1 nw.length c1, .slice a2 od.length c2], .nilIface]) ∧ NumsAt w' a1 nw ∧ NumsAt w' a2 od ∧ Ext W w') := fun W => parse_encM E G nw od k W (by omega) HF.out
        generalize htx : txtM (encM (E : Int) (G : Int) nw od ++ List.replicate k 0) = T at *
        clear htx
        by_cases hlt : k < M
        · clear HP hn ho
          go_wp2
          go_round
          case rel => exact ⟨k + 1, by omega, by go_num, by rw [← HS.out]⟩
          case measure => simp [intOf]; omega
        · have HSM : Hid (∀ W, Ext w W → ∀ a1 c1 a2 c2, NumsAt W a1 nw → NumsAt W a2 od → Calls Try.prog 76 #[.agg #[.int .i64 (E : Int), .int .i64 (G : Int), .slice a1 nw.length c1, .slice a2 od.length c2], .agg #[.int .i64 (E : Int), .int .i64 (G : Int), .slice no nw.length nc, .slice oo od.length oc]] W fun e w' => e = .returned (.bool true) ∧ Ext W w') := fun W hx a1 c1 a2 c2 q1 q2 => by
            have := sameM_any (E : Int) (G : Int) (E : Int) (G : Int) a1 a2 no oo c1 c2 nc oc nw od W (by omega) (by omega) q1 q2 (hn.ext hx) (ho.ext hx)
            rw [decide_eq_true (⟨rfl, rfl⟩ : (E : Int) = E ∧ (G : Int) = G)] at this
            exact this
          clear hn ho
          go_wp2_with (first
            | (go_at_call 72; refine (HP.out _).mono ?_; rintro e w4 ⟨a1, c1, a2, c2, rfl, q1, q2, hx4'⟩; have hx4 := hx3.trans hx4'; clear hx4'; have m0 : World.cell? w4 ⟨w.heap.size, 0, none⟩ = some (.int .i64 (E : Int)) := (HB.out _ hx4).cell 0; have m1 : World.cell? w4 ⟨w.heap.size, 1, none⟩ = some (.int .i64 (G : Int)) := (HB.out _ hx4).cell 1; have m2 : World.cell? w4 ⟨w.heap.size, 2, none⟩ = some (.slice no nw.length nc) := (HB.out _ hx4).cell 2; have m3 : World.cell? w4 ⟨w.heap.size, 3, none⟩ = some (.slice oo od.length oc) := (HB.out _ hx4).cell 3; have hlt4 := (HB.out _ hx4).lt; have hne4 : ¬ w.heap.size = w4.heap.size := Nat.ne_of_lt hlt4)
            | (go_at_call 76; refine (HSM.out _ (hx0.trans (hx4.alloc _)) a1 c1 a2 c2 (q1.ext ((Ext.refl w4).alloc _)) (q2.ext ((Ext.refl w4).alloc _))).mono ?_; rintro e w5 ⟨rfl, hx5⟩))
          go_ret
          exact ⟨rfl, (hx0.trans (hx4.alloc _)).trans hx5⟩
    · have HBY : Hid (∀ W, Ext w W → Calls Try.prog 70 #[.agg #[.int .i64 ep, .int .i64 lg, .slice no nw.length nc, .slice oo od.length oc]] W fun e w' => e = .returned (.tuple #[.string ⟨#[]⟩, .iface 123 (.int .i64 (manF ep lg nw od))]) ∧ Ext W w') := fun W hx => manBytes_bad ep lg no oo nc oc nw od W (by omega) (hn.ext hx) (ho.ext hx) hf
      have HCK : Hid (∀ W, Ext w W → Calls Try.prog 74 #[.agg #[.int .i64 ep, .int .i64 lg, .slice no nw.length nc, .slice oo od.length oc]] W fun e w' => e = .returned (.iface 123 (.int .i64 (manF ep lg nw od))) ∧ Ext W w') := fun W hx => by
        have := manCheck_any ep lg no oo nc oc nw od W (by omega) (hn.ext hx) (ho.ext hx)
        unfold errN at this; rw [if_neg hf] at this; exact this
      clear hn ho hf
      generalize manF ep lg nw od = f at *
      go_enter Try.func15, Try.ntmps15
      go_wp2_with (first
        | (go_at_call_of 70 (Value.agg #[.int .i64 1, .int .i64 5, .slice none 0 0, .slice none 0 0]); refine (bytes15 _).mono ?_; rintro e w1 ⟨⟨t7, rfl, ht7⟩, hx1⟩; have m0 : World.cell? w1 ⟨w.heap.size, 0, none⟩ = some (.int .i64 ep) := (HB.out _ hx1).cell 0; have m1 : World.cell? w1 ⟨w.heap.size, 1, none⟩ = some (.int .i64 lg) := (HB.out _ hx1).cell 1; have m2 : World.cell? w1 ⟨w.heap.size, 2, none⟩ = some (.slice no nw.length nc) := (HB.out _ hx1).cell 2; have m3 : World.cell? w1 ⟨w.heap.size, 3, none⟩ = some (.slice oo od.length oc) := (HB.out _ hx1).cell 3)
        | (go_at_call 69; refine (HLT.out _).mono ?_; rintro e w2 ⟨rfl, hx2'⟩; have hx2 := hx1.trans hx2'; clear hx2'; clear m0 m1 m2 m3; have m0 : World.cell? w2 ⟨w.heap.size, 0, none⟩ = some (.int .i64 ep) := (HB.out _ hx2).cell 0; have m1 : World.cell? w2 ⟨w.heap.size, 1, none⟩ = some (.int .i64 lg) := (HB.out _ hx2).cell 1; have m2 : World.cell? w2 ⟨w.heap.size, 2, none⟩ = some (.slice no nw.length nc) := (HB.out _ hx2).cell 2; have m3 : World.cell? w2 ⟨w.heap.size, 3, none⟩ = some (.slice oo od.length oc) := (HB.out _ hx2).cell 3)
        | (go_at_call 70; refine (HBY.out _ (hx0.trans hx2)).mono ?_; rintro e w3 ⟨rfl, hx3'⟩; have hx3 := hx2.trans hx3'; clear hx3'; clear m0 m1 m2 m3; have m0 : World.cell? w3 ⟨w.heap.size, 0, none⟩ = some (.int .i64 ep) := (HB.out _ hx3).cell 0; have m1 : World.cell? w3 ⟨w.heap.size, 1, none⟩ = some (.int .i64 lg) := (HB.out _ hx3).cell 1; have m2 : World.cell? w3 ⟨w.heap.size, 2, none⟩ = some (.slice no nw.length nc) := (HB.out _ hx3).cell 2; have m3 : World.cell? w3 ⟨w.heap.size, 3, none⟩ = some (.slice oo od.length oc) := (HB.out _ hx3).cell 3)
        | (go_at_call 74; refine (HCK.out _ (hx0.trans hx3)).mono ?_; rintro e w4 ⟨rfl, hx4'⟩; have hx4 := hx3.trans hx4'; clear hx4')
        | (go_at_call 47; refine (numT_err f _).mono ?_; rintro e w5 ⟨rfl, rfl⟩))
      go_ret
      exact ⟨rfl, hx0.trans hx4⟩
  · have HLT : Hid (∀ W, Calls Try.prog 69 #[.agg #[.int .i64 ep, .int .i64 lg, .slice no nw.length nc, .slice oo od.length oc]] W fun e w' => e = .returned (.bool false) ∧ Ext W w') := fun W => lightM_no ep lg no oo nc oc nw od W hL
    clear hL hn ho
    go_enter Try.func15, Try.ntmps15
    go_wp2_with (first
      | (go_at_call_of 70 (Value.agg #[.int .i64 1, .int .i64 5, .slice none 0 0, .slice none 0 0]); refine (bytes15 _).mono ?_; rintro e w1 ⟨⟨t7, rfl, ht7⟩, hx1⟩; have m0 : World.cell? w1 ⟨w.heap.size, 0, none⟩ = some (.int .i64 ep) := (HB.out _ hx1).cell 0; have m1 : World.cell? w1 ⟨w.heap.size, 1, none⟩ = some (.int .i64 lg) := (HB.out _ hx1).cell 1; have m2 : World.cell? w1 ⟨w.heap.size, 2, none⟩ = some (.slice no nw.length nc) := (HB.out _ hx1).cell 2; have m3 : World.cell? w1 ⟨w.heap.size, 3, none⟩ = some (.slice oo od.length oc) := (HB.out _ hx1).cell 3)
      | (go_at_call 69; refine (HLT.out _).mono ?_; rintro e w2 ⟨rfl, hx2'⟩; have hx2 := hx1.trans hx2'; clear hx2'; clear m0 m1 m2 m3; have m0 : World.cell? w2 ⟨w.heap.size, 0, none⟩ = some (.int .i64 ep) := (HB.out _ hx2).cell 0; have m1 : World.cell? w2 ⟨w.heap.size, 1, none⟩ = some (.int .i64 lg) := (HB.out _ hx2).cell 1; have m2 : World.cell? w2 ⟨w.heap.size, 2, none⟩ = some (.slice no nw.length nc) := (HB.out _ hx2).cell 2; have m3 : World.cell? w2 ⟨w.heap.size, 3, none⟩ = some (.slice oo od.length oc) := (HB.out _ hx2).cell 3))
    go_ret
    exact ⟨rfl, hx0.trans hx2⟩
end Go.Proofs.Ytpldeejagomfjaa
