
/- The walk of TopTorn: the long way. -/
import Derived.Test.YtpldeejagomfjaaTornA
import Derived.Test.YtpldeejagomfjaaOnceC
namespace Go.Proofs.Ytpldeejagomfjaa
open Go.RowKit

set_option maxRecDepth 100000 in
set_option maxHeartbeats 8000000 in
theorem topTorn_erase (ao : Option Addr) (cap : Nat) (acs : List ActE) (kind s : ByteArray) (A : Nat) (bb : Int) (es : List Ent) (eo : Option Addr) (ec : Nat) (how : Int) (w : World) (hl : acs.length ≤ 80) (has : ActsAt w ao acs) (hok : ActOk w ⟨kind, s, (A : Int), bb, es, eo, ec⟩)
    (hli : lightActs acs 80 = true) (hl1 : lightActs [⟨kind, s, (A : Int), bb, es, eo, ec⟩] 1 = true) (hA24 : A < 24) (her : (kind.toList == [101, 114, 97, 115, 101]) = true) :
    Calls Try.prog 7 #[.slice ao acs.length cap, .agg #[.string kind, .string s, .int .i64 (A : Int), .int .i64 bb, .slice eo es.length ec], .int .i64 how] w fun r w' => r = .returned (.bool true) ∧ Ext w w' := by
  have hx0 : Ext w (w.alloc (.cells #[.string kind, .string s, .int .i64 (A : Int), .int .i64 bb, .slice eo es.length ec] 49)) := (Ext.refl w).alloc _
  have hA0 : Blk (w.alloc (.cells #[.string kind, .string s, .int .i64 (A : Int), .int .i64 bb, .slice eo es.length ec] 49)) w.heap.size (actV ⟨kind, s, (A : Int), bb, es, eo, ec⟩) 49 := Blk.new _ _ _
  have hsz : s.size ≤ 9223372036854775807 := hok.sz
  have HA0 : Hid (Blk (w.alloc (.cells #[.string kind, .string s, .int .i64 (A : Int), .int .i64 bb, .slice eo es.length ec] 49)) w.heap.size (actV ⟨kind, s, (A : Int), bb, es, eo, ec⟩) 49) := hA0
  clear hA0
  have hA1 : ¬ (A : Int) < 0 := by omega
  have hA2 : (A : Int) < 24 := by omega
  have z0 := zero69
  go_enter Try.func7, Try.ntmps7
  go_wp2_with (first
    | (go_at_call 29; refine (new_any _).mono ?_; rintro r w1 ⟨rfl, hc1, hx1, hs1⟩; simp only [World.size_alloc] at hc1)
    | (go_at_call 37; refine (arm_any _ 0 _ _ hc1).mono ?_; rintro r w2 ⟨rfl, hc2, hg2⟩; have hx2 := (hx0.trans hx1).grown2 hg2 (Nat.le_succ _))
    | (go_at_call 31; refine (write9 _ _ hc2).mono ?_; rintro r w3 ⟨rfl, hc3, hg3⟩; have hx3 := hx2.grown2 hg3 (Nat.le_succ _); have hB2 := ((HA0.out.ext hx1).grown hg2 (by omega)).grown hg3 (by omega); obtain ⟨a0, a1, a2, a3, a4⟩ := act_cells hB2; dsimp only at a0 a1 a2 a3 a4; have hbl := lt_of_cell2 a0)
    | (go_at_call 47; refine (number_any _ _).mono ?_; rintro r wy ⟨rfl, hwy⟩; subst wy)
    | (go_at_call 48; refine (down9 _ _ hc3).mono ?_; rintro r wy ⟨rfl, hwy⟩; subst wy)
    | (go_at_call_of 28 (Value.int .i64 80); refine (lightActs_any ao cap acs 80 _ (by omega) (by omega) (has.ext hx3)).mono ?_; rw [hli]; rintro r w4 ⟨rfl, rfl⟩)
    | (go_at_call_of 28 (Value.int .i64 1); refine (lightActs_any _ 1 [⟨kind, s, (A : Int), bb, es, eo, ec⟩] 1 _ (by omega) (by simp) (acts_one (Blk.new _ _ _) (hok.ext (hx3.alloc _)))).mono ?_; rw [hl1]; rintro r w5 ⟨rfl, rfl⟩))
  have hx5 : Ext w (w4.alloc (.cells (actV ⟨kind, s, (A : Int), bb, es, eo, ec⟩) 49)) := hx3.alloc _
  have hB5 := hB2.alloc (.cells (actV ⟨kind, s, (A : Int), bb, es, eo, ec⟩) 49)
  have hasx := has.ext hx5
  have hlt5 := hB5.lt
  clear has hli hl1 hok hx0 HA0 hc1 hx1 hs1 hc2 hg2 hB2 a0 a1 a2 a3 a4 hbl hx2 hc3 hg3 hx3
  generalize (w4.alloc (.cells (actV ⟨kind, s, (A : Int), bb, es, eo, ec⟩) 49)) = w5 at *
  refine (acted_any ao cap acs _ (by omega) hasx).mono ?_
  rintro r w6 ⟨rfl, ⟨M, hc6, hbd⟩, hx56⟩
  have hx6 := hx5.trans hx56
  have hB6 := hB5.ext hx56
  have hcbne : ¬ w.heap.size = w5.heap.size := by omega
  have hcbge : w.heap.size ≤ w5.heap.size := by omega
  clear hasx hx5 hB5 hx56 hlt5
  generalize w5.heap.size = cb at *
  go_wp2_with fail
  refine (sheets_any cb M _ hc6).mono ?_
  rintro r w7 ⟨⟨cs, rfl, hS⟩, hx67⟩
  obtain ⟨hsc, hW, hx78⟩ := box69 cs M w7 hS
  have hc8 := (hc6.ext hx67).ext hx78
  have hB8 := (hB6.ext hx67).ext hx78
  have hx8 := (hx6.trans hx67).trans hx78
  obtain ⟨b0, b1, b2, b3, _⟩ := act_cells hB8
  dsimp only at b0 b1 b2 b3
  have hwb : w.heap.size ≤ w7.heap.size := (hx6.trans hx67).size
  have hwbc : ¬ w7.heap.size = cb := by have := CellsAt.lt (hc6.ext hx67).cells; omega
  have hcz := hS.size
  clear hc6 hB6 hx67 hx78 hx6
  go_wp2_with fail
  generalize (w7.alloc (.cells Z69 69)).setCells w7.heap.size 0 cs.toList = w8 at *
  clear hsc
  generalize w7.heap.size = wb at *
  have hl8 : (M.pg A).length ≤ 8 := by
    obtain ⟨⟨cs', fv, k1, k2, k3⟩, _⟩ := hc8
    exact (k2.blk A hA24).len8
  have hwrk : WrOk M := (hbd.ok (by omega)).2
  have hpn := hbd.pend
  refine (next_any cb A M _ hA24 hc8).mono ?_
  rintro r wx ⟨rfl, hwx⟩
  subst wx
  go_wp2_with fail
  refine (arm_any cb 0 M _ hc8).mono ?_
  rintro r w9 ⟨rfl, hc9', hg9⟩
  have hc9 : ChipAt w9 cb (armM M 0) := hc9'
  have hB9 := hB8.grown hg9 hcbne
  have hW9 := hW.grown hg9 hwbc
  have hx9 := hx8.grown2 hg9 hcbge
  have hge := hg9.size
  have hwlt := hW.lt
  obtain ⟨d0, d1, d2, d3, _⟩ := act_cells hB9
  dsimp only at d0 d1 d2 d3
  clear hc8 hB8 hx8 hg9 hW b0 b1 b2 b3 hc9'
  go_wp2_with fail
  refine (erase_any cb A (armM M 0) _ hc9 (by show (0 : Int) ≤ _; omega) hwrk).mono ?_
  rintro r w10 ⟨rfl, hcT, hg10⟩
  have hcT' : ChipAt w10 cb (tornM M A s true) := hcT
  have hB10 := hB9.grown hg10 hcbne
  have hW10 := hW9.grown hg10 hwbc
  have hx10 := hx9.grown2 hg10 hcbge
  have hge10 := hg10.size
  obtain ⟨e0, e1, e2, e3, _⟩ := act_cells hB10
  dsimp only at e0 e1 e2 e3
  clear hB9 hW9 hx9 hg10 d0 d1 d2 d3 hcT hc9 her
  rcases torn_cases hpn A s true hA24 hl8 with ⟨t9, tM, tl⟩ | ⟨t9, t0, td⟩
  · rw [show eraseE (armM M 0) (A : Int) = 9 from t9]
    have hc10 : ChipAt w10 cb (fellM M A s true) := by rw [tM] at hcT'; exact hcT'
    clear t9 tM hcT'
    clear tl
    go_wp2_with (first
      | (go_at_call 47; refine (number_any _ _).mono ?_; rintro r wy ⟨rfl, hwy⟩; subst wy)
      | (go_at_call 40; refine (read_any cb A 0 _ _ hc10).mono ?_; rw [fell_read]; rintro r wy ⟨rfl, hwy⟩; subst wy; dsimp only)
      | (go_at_call 31; refine (write_any cb A ⟨#[120]⟩ _ _ hc10 (by show (0 : Int) ≤ _; omega) (by decide)).mono ?_; rw [(fell_write M A s true _ _).1, (fell_write M A s true _ _).2]; rintro r w11 ⟨rfl, hc11, hg11⟩))
    have hB11 := hB10.grown hg11 hcbne
    have hW11 := hW10.grown hg11 hwbc
    have hx11 := hx10.grown2 hg11 hcbge
    have hge11 := hg11.size
    clear hc10 hB10 hW10 hx10 hg11 e0 e1 e2 e3
    refine (restart_any cb how _ _ hc11 hwrk).mono ?_
    rintro r w12 ⟨rfl, hc12', hg12⟩
    have hc12 : ChipAt w12 cb (againM M A s true how) := hc12'
    have hB12 := hB11.grown hg12 hcbne
    have hW12 := hW11.grown hg12 hwbc
    have hx12 := hx11.grown2 hg12 hcbge
    clear hc11 hB11 hW11 hx11 hg12 hc12'
    go_wp2_with fail
    have hst := again_stays hpn A s true how
    refine (sheets_any cb (againM M A s true how) _ hc12).mono ?_
    rintro r wA ⟨⟨cs2, rfl, hS2⟩, hxA⟩
    obtain ⟨hsc, hN, hxB⟩ := box69 cs2 _ wA hS2
    have hcB := (hc12.ext hxA).ext hxB
    have hBB := (hB12.ext hxA).ext hxB
    have hWB := (hW12.ext hxA).ext hxB
    have hxx := (hx12.trans hxA).trans hxB
    obtain ⟨_, g1, g2, g3, _⟩ := act_cells hBB
    dsimp only at g1 g2 g3
    have hcz2 := hS2.size
    have HC4 : Hid (∀ b p, b < 24 → p < 8 → ¬ (b = A ∧ (true = true ∨ p = (M.pg A).length)) → ((wA.alloc (.cells Z69 69)).setCells wA.heap.size 0 cs2.toList).cell? ⟨wA.heap.size, b * 16 + p * 2, none⟩ = some (.string (txtL (readR M (b : Int) (p : Int)).1)) ∧ ((wA.alloc (.cells Z69 69)).setCells wA.heap.size 0 cs2.toList).cell? ⟨wA.heap.size, b * 16 + p * 2 + 1, none⟩ = some (.int .i64 (readR M (b : Int) (p : Int)).2) ∧
        ((wA.alloc (.cells Z69 69)).setCells wA.heap.size 0 cs2.toList).cell? ⟨wb, b * 16 + p * 2, none⟩ = some (.string (txtL (readR M (b : Int) (p : Int)).1)) ∧ ((wA.alloc (.cells Z69 69)).setCells wA.heap.size 0 cs2.toList).cell? ⟨wb, b * 16 + p * 2 + 1, none⟩ = some (.int .i64 (readR M (b : Int) (p : Int)).2)) := by
      intro b p hb hp hn
      have e1 := hst b p hb hp hn
      refine ⟨?_, ?_, ?_, ?_⟩
      · rw [hN.cell, hS2.s b p hb hp (by omega)]; unfold sheetS; rw [e1]
      · rw [hN.cell, hS2.e b p hb hp (by omega)]; unfold sheetN; rw [e1]
      · rw [hWB.cell, hS.s b p hb hp (by omega)]; rfl
      · rw [hWB.cell, hS.e b p hb hp (by omega)]; rfl
    have HE9 : Hid (∀ p, p < 8 → ((wA.alloc (.cells Z69 69)).setCells wA.heap.size 0 cs2.toList).cell? ⟨wA.heap.size, A * 16 + p * 2 + 1, none⟩ = some (.int .i64 (readR (againM M A s true how) (A : Int) (p : Int)).2)) := by
      intro p hp; rw [hN.cell, hS2.e A p hA24 hp (by omega)]; rfl
    clear hxA hxB hBB hst
    go_wp2_with fail
    generalize (wA.alloc (.cells Z69 69)).setCells wA.heap.size 0 cs2.toList = wB at *
    clear hsc z0
    generalize wA.heap.size = nb at *
    go_loopw [16, 17] (fun i _ wx => ∃ (b q : Nat), b ≤ 24 ∧ i = .int .i64 b ∧ wx = wB.drewN q) (fun i _ _ => 24 - (intOf i).toNat)
    case atStart => exact ⟨0, 0, Nat.zero_le _, rfl, rfl⟩
    case round =>
      obtain ⟨b, q, hb24, rfl, rfl⟩ := hrel
      by_cases hb : b < 24
      · have hb' : (b : Int) < 24 := by omega
        have hb0 : (0 : Int) ≤ (b : Int) := by omega
        go_wp2_with fail
        go_loopw [17] (fun j wx => ∃ (p q : Nat), p ≤ 8 ∧ j = .int .i64 p ∧ wx = wB.drewN q) (fun j _ => 8 - (intOf j).toNat)
        case atStart => exact ⟨0, q, Nat.zero_le _, rfl, rfl⟩
        case round =>
          obtain ⟨p, q, hp8, rfl, rfl⟩ := hrel
          by_cases hlp : p < 8
          · have hlp' : (p : Int) < 8 := by omega
            have hp0 : (0 : Int) ≤ (p : Int) := by omega
            have cells4 := HC4.out
            by_cases hbA : b = A
            · have hbA' : ((b : Int) == (A : Int)) = true := by simp; omega
              have hbA2 : ((b : Int) != (A : Int)) = false := by simp; omega
              clear cells4
              go_wp2_with fail
              go_quiet (fail)
              go_wp2
              go_roundw
              case rel => exact ⟨p + 1, _, by omega, by go_num, rfl⟩
              case measure => simp [intOf]; omega
            · have hbA' : ((b : Int) == (A : Int)) = false := by simp; omega
              have hbA2 : ((b : Int) != (A : Int)) = true := by simp; omega
              obtain ⟨n0, n1, v0, v1⟩ := cells4 b p hb hlp (by intro hh; exact hbA hh.1)
              clear cells4
              generalize readR M (b : Int) (p : Int) = rr at *
              go_wp2_with fail
              go_quiet (fail)
              go_wp2
              go_roundw
              case rel => exact ⟨p + 1, _, by omega, by go_num, rfl⟩
              case measure => simp [intOf]; omega
          · have hp88 : p = 8 := by omega
            subst hp88
            go_wp2_with fail
            go_roundw
            case rel => exact ⟨b + 1, q, by omega, by go_num, rfl⟩
            case measure => simp [intOf]; omega
      · have hb24' : b = 24 := by omega
        subst hb24'
        have hcQ := hcB.ext ((Ext.refl wB).drewN q)
        have hA0' : (0 : Int) ≤ (A : Int) := by omega
        have hn0' : (0 : Int) ≤ ((M.pg A).length : Int) := by omega
        by_cases hh1 : how = 1
        · subst hh1
          obtain ⟨k1, k2⟩ := (again_half M A s hA24).1
          have c9 := HE9.out 0 (by omega)
          rw [k2] at c9
          have t1 : ((((againM M A s true 1).pg A).length : Int) == 8) = true := by rw [k1]; rfl
          clear k1 k2
          go_wp2_with (first
            | (go_at_call 43; refine (next_any cb A _ _ hA24 hcQ).mono ?_; rintro r wx ⟨rfl, hwx⟩; subst wx)
            | (go_at_call 48; refine (down_any cb _ _ hcQ).mono ?_; rw [again_down]; rintro r wx ⟨rfl, hwx⟩; subst wx))
          go_ret
          exact ⟨rfl, hxx.drewN q⟩
        · by_cases hh2 : how = 2
          · subst hh2
            have k1 := (again_done M A s hA24).1
            have t1 : ((((againM M A s true 2).pg A).length : Int) == 0) = true := by rw [k1]; rfl
            clear k1
            go_wp2_with (first
              | (go_at_call 43; refine (next_any cb A _ _ hA24 hcQ).mono ?_; rintro r wx ⟨rfl, hwx⟩; subst wx)
              | (go_at_call 48; refine (down_any cb _ _ hcQ).mono ?_; rw [again_down]; rintro r wx ⟨rfl, hwx⟩; subst wx))
            go_ret
            exact ⟨rfl, hxx.drewN q⟩
          · have hh1' : (how == 1) = false := by simp [hh1]
            have hh2' : (how == 2) = false := by simp [hh2]
            have t1 : ((((againM M A s true how).pg A).length : Int) == ((M.pg A).length : Int)) = true := by rw [again_not M A s true how hh1 hh2]; simp
            go_wp2_with (first
              | (go_at_call 43; refine (next_any cb A _ _ hA24 hcQ).mono ?_; rintro r wx ⟨rfl, hwx⟩; subst wx)
              | (go_at_call 48; refine (down_any cb _ _ hcQ).mono ?_; rw [again_down]; rintro r wx ⟨rfl, hwx⟩; subst wx))
            go_ret
            exact ⟨rfl, hxx.drewN q⟩
  · have t9' : ((eraseE (armM M 0) (A : Int) : Int) == 9) = false := by have h9 : ¬ eraseE (armM M 0) (A : Int) = 9 := t9; simpa using h9
    have he : errV (eraseE (armM M 0) (A : Int)) = .iface 123 (.int .i64 (eraseE (armM M 0) (A : Int))) := by unfold errV; rw [if_neg (show ¬ eraseE (armM M 0) (A : Int) = 0 from t0)]
    have HE : Hid (errV (eraseE (armM M 0) (A : Int)) = .iface 123 (.int .i64 (eraseE (armM M 0) (A : Int)))) := he
    have HN := fun (w : World) => number_any (eraseE (armM M 0) (A : Int)) w
    rw [he] at HN
    rw [he]
    clear he HE t9 t0
    generalize eraseE (armM M 0) (A : Int) = en at *
    go_wp2_with (first
      | (go_at_call 47; refine (HN _).mono ?_; rintro r wy ⟨rfl, hwy⟩; subst wy)
      | (go_at_call 48; refine (down_any cb _ _ hcT').mono ?_; rw [td]; rintro r wy ⟨rfl, hwy⟩; subst wy))
    go_ret
    exact ⟨rfl, hx10⟩

end Go.Proofs.Ytpldeejagomfjaa
