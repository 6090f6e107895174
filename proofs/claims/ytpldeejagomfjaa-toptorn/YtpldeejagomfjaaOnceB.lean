
/- The walk of TopOnce: the long way. -/
import Derived.Test.YtpldeejagomfjaaOnceA
import Derived.Test.YtpldeejagomfjaaChpW
namespace Go.Proofs.Ytpldeejagomfjaa
open Go.RowKit

theorem sheet_one {cs : Array Value} {M : CM} {n : Nat} (h : SheetTo cs M n) : ∀ v ∈ cs.toList, v.oneCell' = true := by
  intro v hv
  obtain ⟨i, hi⟩ := List.mem_iff_getElem?.1 hv
  exact h.one i v (by simpa using hi)
/-- An array of sheets is put into a new variable. -/
theorem box69 (cs : Array Value) (M : CM) (w : World) (h : SheetTo cs M 192) :
    (storeCells ⟨w.heap.size, 0, none⟩ cs.toList).run Try.prog (w.alloc (.cells Z69 69)) = .ok () ((w.alloc (.cells Z69 69)).setCells w.heap.size 0 cs.toList) ∧
      Blk ((w.alloc (.cells Z69 69)).setCells w.heap.size 0 cs.toList) w.heap.size cs 69 ∧ Ext w ((w.alloc (.cells Z69 69)).setCells w.heap.size 0 cs.toList) := by
  have hz := h.size
  have hB : Blk (w.alloc (.cells Z69 69)) w.heap.size Z69 69 := Blk.new _ _ _
  refine ⟨store_run _ _ _ _ (hB.there (by rw [Array.length_toList, hz, Z69_size]; omega)) (sheet_one h), ?_, Ext.setCells (Nat.le_refl _) _ ((Ext.refl w).alloc _) 0⟩
  have := Blk.setCells cs.toList hB 0
  rw [putAt_all _ _ (by rw [Array.length_toList, hz, Z69_size])] at this
  simpa using this

set_option maxRecDepth 100000 in
set_option maxHeartbeats 8000000 in
theorem topOnce_main (ao : Option Addr) (cap : Nat) (acs : List ActE) (kind s : ByteArray) (A : Nat) (bb : Int) (es : List Ent) (eo : Option Addr) (ec : Nat) (er : Bool) (w : World) (hl : acs.length ≤ 80) (has : ActsAt w ao acs) (hok : ActOk w ⟨kind, s, (A : Int), bb, es, eo, ec⟩)
    (hli : lightActs acs 80 = true) (hl1 : lightActs [⟨kind, s, (A : Int), bb, es, eo, ec⟩] 1 = true) (hA24 : A < 24) (her : (bits .and .i64 bb 1 == 1) = er) :
    Calls Try.prog 6 #[.slice ao acs.length cap, .agg #[.string kind, .string s, .int .i64 (A : Int), .int .i64 bb, .slice eo es.length ec]] w fun r w' => r = .returned (.bool true) ∧ Ext w w' := by
  have hx0 : Ext w (w.alloc (.cells #[.string kind, .string s, .int .i64 (A : Int), .int .i64 bb, .slice eo es.length ec] 49)) := (Ext.refl w).alloc _
  have hA0 : Blk (w.alloc (.cells #[.string kind, .string s, .int .i64 (A : Int), .int .i64 bb, .slice eo es.length ec] 49)) w.heap.size (actV ⟨kind, s, (A : Int), bb, es, eo, ec⟩) 49 := Blk.new _ _ _
  have hsz : s.size ≤ 9223372036854775807 := hok.sz
  have HA0 : Hid (Blk (w.alloc (.cells #[.string kind, .string s, .int .i64 (A : Int), .int .i64 bb, .slice eo es.length ec] 49)) w.heap.size (actV ⟨kind, s, (A : Int), bb, es, eo, ec⟩) 49) := hA0
  clear hA0
  have hA1 : ¬ (A : Int) < 0 := by omega
  have hA2 : (A : Int) < 24 := by omega
  have z0 := zero69
  go_enter Try.func6, Try.ntmps6
  go_wp2_with (first
    | (go_at_call 29; refine (new_any _).mono ?_; rintro r w1 ⟨rfl, hc1, hx1, hs1⟩; simp only [World.size_alloc] at hc1)
    | (go_at_call 31; refine (write3 _ _ hc1).mono ?_; rintro r w2 ⟨rfl, hc2, hg2⟩; have hB2 := (HA0.out.ext hx1).grown hg2 (by omega); obtain ⟨a0, a1, a2, a3, a4⟩ := act_cells hB2; dsimp only at a0 a1 a2 a3 a4; have hbl := lt_of_cell2 a0)
    | (go_at_call 43; refine (next3 _ _ hc2).mono ?_; rintro r w3 ⟨rfl, rfl⟩)
    | (go_at_call_of 28 (Value.int .i64 80); refine (lightActs_any ao cap acs 80 _ (by omega) (by omega) (has.ext ((hx0.trans hx1).grown2 hg2 (Nat.le_succ _)))).mono ?_; rw [hli]; rintro r w4 ⟨rfl, rfl⟩)
    | (go_at_call_of 28 (Value.int .i64 1); refine (lightActs_any _ 1 [⟨kind, s, (A : Int), bb, es, eo, ec⟩] 1 _ (by omega) (by simp) (acts_one (Blk.new _ _ _) (hok.ext (((hx0.trans hx1).grown2 hg2 (Nat.le_succ _)).alloc _)))).mono ?_; rw [hl1]; rintro r w5 ⟨rfl, rfl⟩))
  have hx5 : Ext w (w4.alloc (.cells (actV ⟨kind, s, (A : Int), bb, es, eo, ec⟩) 49)) := ((hx0.trans hx1).grown2 hg2 (Nat.le_succ _)).alloc _
  have hB5 := hB2.alloc (.cells (actV ⟨kind, s, (A : Int), bb, es, eo, ec⟩) 49)
  have hasx := has.ext hx5
  have hlt5 := hB5.lt
  clear has hli hl1 hok hx0 HA0 hc1 hx1 hs1 hc2 hg2 hB2 a0 a1 a2 a3 a4 hbl
  generalize (w4.alloc (.cells (actV ⟨kind, s, (A : Int), bb, es, eo, ec⟩) 49)) = w5 at *
  refine (acted_any ao cap acs _ (by omega) hasx).mono ?_
  rintro r w6 ⟨rfl, ⟨M, hc6, hbd⟩, hx56⟩
  have hx6 := hx5.trans hx56
  have hB6 := hB5.ext hx56
  have hcbne : ¬ w.heap.size = w5.heap.size := by omega
  have hcbge : w.heap.size ≤ w5.heap.size := by omega
  clear hasx hx5 hB5 hx56 hlt5
  generalize w5.heap.size = cb at *
  go_wp2_with fail
  refine (sheets_any cb M _ hc6).mono ?_
  rintro r w7 ⟨⟨cs, rfl, hS⟩, hx67⟩
  obtain ⟨hsc, hW, hx78⟩ := box69 cs M w7 hS
  have hc8 := (hc6.ext hx67).ext hx78
  have hB8 := (hB6.ext hx67).ext hx78
  have hx8 := (hx6.trans hx67).trans hx78
  obtain ⟨_, b1, b2, b3, _⟩ := act_cells hB8
  dsimp only at b1 b2 b3
  have hwb : w.heap.size ≤ w7.heap.size := (hx6.trans hx67).size
  have hwbc : ¬ w7.heap.size = cb := by have := CellsAt.lt (hc6.ext hx67).cells; omega
  have hcz := hS.size
  clear hc6 hB6 hx67 hx78 hx6
  go_wp2_with fail
  generalize (w7.alloc (.cells Z69 69)).setCells w7.heap.size 0 cs.toList = w8 at *
  clear hsc
  generalize w7.heap.size = wb at *
  have hl8 : (M.pg A).length ≤ 8 := by
    obtain ⟨⟨cs', fv, k1, k2, k3⟩, _⟩ := hc8
    exact (k2.blk A hA24).len8
  have hub := (hbd.ok (by omega)).1
  have hwr := hbd.wr A
  refine (next_any cb A M _ hA24 hc8).mono ?_
  rintro r wx ⟨rfl, hwx⟩
  subst wx
  go_wp2_with fail
  refine (wear_any cb A M _ hA24 hc8).mono ?_
  rintro r wx ⟨rfl, hwx⟩
  subst wx
  go_wp2_with fail
  refine (write_any cb A s M _ hc8 hub hsz).mono ?_
  rintro r w9 ⟨rfl, hc9, hg9⟩
  have hB9 := hB8.grown hg9 hcbne
  have hW9 := hW.grown hg9 hwbc
  have hx9 := hx8.grown2 hg9 hcbge
  have hbd9 := hbd.write A s
  have hge := hg9.size
  have hwlt := hW.lt
  obtain ⟨_, d1, d2, d3, _⟩ := act_cells hB9
  dsimp only at d1 d2 d3
  clear hc8 hB8 hx8 hg9 hW b1 b2 b3
  cases er with
  | false =>
    have hc10 : ChipAt w9 cb (onceM M A s false) := by unfold onceM; exact hc9
    go_wp2_with fail
    have hst := once_stays hbd A s false
    have hdn := once_done hbd A s hA24 hl8
    have HD : Hid ((onceE M A s true = 0 → ((onceM M A s true).pg A).length = 0 ∧ (onceM M A s true).wr A = M.wr A + 1) ∧
      (onceE M A s false = 0 → ((onceM M A s false).pg A).length = (M.pg A).length + 1 ∧ (onceM M A s false).wr A = M.wr A ∧ (M.pg A).length < 8 ∧ (readR (onceM M A s false) (A : Int) ((M.pg A).length : Int)).2 = 0)) := hdn
    clear hdn
    refine (sheets_any cb (onceM M A s false) _ hc10).mono ?_
    rintro r wA ⟨⟨cs2, rfl, hS2⟩, hxA⟩
    obtain ⟨hsc, hN, hxB⟩ := box69 cs2 _ wA hS2
    have hcB := (hc10.ext hxA).ext hxB
    have hBB := (hB9.ext hxA).ext hxB
    have hWB := (hW9.ext hxA).ext hxB
    have hxx := (hx9.trans hxA).trans hxB
    obtain ⟨_, g1, g2, g3, _⟩ := act_cells hBB
    dsimp only at g1 g2 g3
    have hcz2 := hS2.size
    clear hxA hxB hBB
    go_wp2_with fail
    generalize (wA.alloc (.cells Z69 69)).setCells wA.heap.size 0 cs2.toList = wB at *
    clear hsc
    generalize wA.heap.size = nb at *
    have cells4 : ∀ b p, b < 24 → p < 8 → ¬ (b = A ∧ (false = true ∨ p = (M.pg A).length)) → wB.cell? ⟨nb, b * 16 + p * 2, none⟩ = some (.string (txtL (readR M (b : Int) (p : Int)).1)) ∧ wB.cell? ⟨nb, b * 16 + p * 2 + 1, none⟩ = some (.int .i64 (readR M (b : Int) (p : Int)).2) ∧
        wB.cell? ⟨wb, b * 16 + p * 2, none⟩ = some (.string (txtL (readR M (b : Int) (p : Int)).1)) ∧ wB.cell? ⟨wb, b * 16 + p * 2 + 1, none⟩ = some (.int .i64 (readR M (b : Int) (p : Int)).2) := by
      intro b p hb hp hn
      have e1 := hst b p hb hp hn
      refine ⟨?_, ?_, ?_, ?_⟩
      · rw [hN.cell, hS2.s b p hb hp (by omega)]; unfold sheetS; rw [e1]
      · rw [hN.cell, hS2.e b p hb hp (by omega)]; unfold sheetN; rw [e1]
      · rw [hWB.cell, hS.s b p hb hp (by omega)]; rfl
      · rw [hWB.cell, hS.e b p hb hp (by omega)]; rfl
    have HC4 : Hid (∀ b p, b < 24 → p < 8 → ¬ (b = A ∧ (false = true ∨ p = (M.pg A).length)) → wB.cell? ⟨nb, b * 16 + p * 2, none⟩ = some (.string (txtL (readR M (b : Int) (p : Int)).1)) ∧ wB.cell? ⟨nb, b * 16 + p * 2 + 1, none⟩ = some (.int .i64 (readR M (b : Int) (p : Int)).2) ∧
        wB.cell? ⟨wb, b * 16 + p * 2, none⟩ = some (.string (txtL (readR M (b : Int) (p : Int)).1)) ∧ wB.cell? ⟨wb, b * 16 + p * 2 + 1, none⟩ = some (.int .i64 (readR M (b : Int) (p : Int)).2)) := cells4
    have HE9 : Hid (∀ p, p < 8 → wB.cell? ⟨nb, A * 16 + p * 2 + 1, none⟩ = some (.int .i64 (readR (onceM M A s false) (A : Int) (p : Int)).2)) := by
      intro p hp; rw [hN.cell, hS2.e A p hA24 hp (by omega)]; rfl
    clear cells4 hst z0
    go_loopw [13, 14] (fun i _ wx => ∃ (b q : Nat), b ≤ 24 ∧ i = .int .i64 b ∧ wx = wB.drewN q) (fun i _ _ => 24 - (intOf i).toNat)
    case atStart => exact ⟨0, 0, Nat.zero_le _, rfl, rfl⟩
    case round =>
      obtain ⟨b, q, hb24, rfl, rfl⟩ := hrel
      by_cases hb : b < 24
      · have hb' : (b : Int) < 24 := by omega
        have hb0 : (0 : Int) ≤ (b : Int) := by omega
        go_wp2_with fail
        go_loopw [14] (fun j wx => ∃ (p q : Nat), p ≤ 8 ∧ j = .int .i64 p ∧ wx = wB.drewN q) (fun j _ => 8 - (intOf j).toNat)
        case atStart => exact ⟨0, q, Nat.zero_le _, rfl, rfl⟩
        case round =>
          obtain ⟨p, q, hp8, rfl, rfl⟩ := hrel
          by_cases hlp : p < 8
          · have hlp' : (p : Int) < 8 := by omega
            have hp0 : (0 : Int) ≤ (p : Int) := by omega
            have cells4 := HC4.out
            have hst := True.intro
            by_cases hbA : b = A
            · have hbA' : ((b : Int) == (A : Int)) = true := by simp; omega
              by_cases hpn : p = (M.pg A).length
              · have hpn' : ((p : Int) == ((M.pg A).length : Int)) = true := by simp; omega
                clear hst
                go_wp2_with fail
                go_roundw
                case rel => exact ⟨p + 1, q, by omega, by go_num, rfl⟩
                case measure => simp [intOf]; omega
              · have hpn' : ((p : Int) == ((M.pg A).length : Int)) = false := by simp; omega
                obtain ⟨n0, n1, v0, v1⟩ := cells4 b p hb hlp (by rintro ⟨_, h | h⟩; cases h; exact hpn h)
                clear hst
                generalize readR M (b : Int) (p : Int) = rr at *
                go_wp2_with fail
                go_quiet (fail)
                go_wp2
                go_roundw
                case rel => exact ⟨p + 1, _, by omega, by go_num, rfl⟩
                case measure => simp [intOf]; omega
            · have hbA' : ((b : Int) == (A : Int)) = false := by simp; omega
              obtain ⟨n0, n1, v0, v1⟩ := cells4 b p hb hlp (by rintro ⟨h, _⟩; exact hbA h)
              clear hst
              generalize readR M (b : Int) (p : Int) = rr at *
              go_wp2_with fail
              go_quiet (fail)
              go_wp2
              go_roundw
              case rel => exact ⟨p + 1, _, by omega, by go_num, rfl⟩
              case measure => simp [intOf]; omega
          · have hp88 : p = 8 := by omega
            subst hp88
            go_wp2_with fail
            go_roundw
            case rel => exact ⟨b + 1, q, by omega, by go_num, rfl⟩
            case measure => simp [intOf]; omega
      · have hb24' : b = 24 := by omega
        subst hb24'
        by_cases h0 : writeE M (A : Int) s = 0
        · have he : errV (writeE M (A : Int) s) = .nilIface := by rw [h0]; rfl
          rw [he]
          obtain ⟨k1, k2, k3, k4⟩ := HD.out.2 h0
          have c9 := HE9.out (M.pg A).length k3
          rw [k4] at c9
          have hcQ := hcB.ext ((Ext.refl wB).drewN q)
          have hA0' : (0 : Int) ≤ (A : Int) := by omega
          have hn0' : (0 : Int) ≤ ((M.pg A).length : Int) := by omega
          have hn8' : ((M.pg A).length : Int) < 8 := by omega
          have t1 : ((((onceM M A s false).pg A).length : Int) == (((M.pg A).length : Int) + 1)) = true := by rw [k1]; simp
          have t2 : (((onceM M A s false).wr A : Int) == (M.wr A : Int)) = true := by rw [k2]; simp
          clear k1 k2 k3 k4
          go_wp2_with (first
            | (go_at_call 43; refine (next_any cb A _ _ hA24 hcQ).mono ?_; rintro r wx ⟨rfl, hwx⟩; subst wx)
            | (go_at_call 46; refine (wear_any cb A _ _ hA24 hcQ).mono ?_; rintro r wx ⟨rfl, hwx⟩; subst wx))
          go_ret
          exact ⟨rfl, hxx.drewN q⟩
        · have he : errV (writeE M (A : Int) s) = .iface 123 (.int .i64 (writeE M (A : Int) s)) := by unfold errV; rw [if_neg h0]
          rw [he]
          generalize writeE M (A : Int) s = en at *
          go_wp2_with fail
          go_ret
          exact ⟨rfl, hxx.drewN q⟩
  | true =>
    go_wp2_with fail
    refine (erase_any cb A (writeM M (A : Int) s) _ hc9 (hbd9.ok (by omega)).1 (hbd9.ok (by omega)).2).mono ?_
    rintro r w10 ⟨rfl, hcT, hg10⟩
    have hc10 : ChipAt w10 cb (onceM M A s true) := by unfold onceM; exact hcT
    have hB10 := hB9.grown hg10 hcbne
    have hW10 := hW9.grown hg10 hwbc
    have hx10 := hx9.grown2 hg10 hcbge
    clear hB9 hW9 hx9 hg10 d1 d2 d3 hcT hc9
    go_wp2_with fail
    have hst := once_stays hbd A s true
    have hdn := once_done hbd A s hA24 hl8
    have HD : Hid ((onceE M A s true = 0 → ((onceM M A s true).pg A).length = 0 ∧ (onceM M A s true).wr A = M.wr A + 1) ∧
      (onceE M A s false = 0 → ((onceM M A s false).pg A).length = (M.pg A).length + 1 ∧ (onceM M A s false).wr A = M.wr A ∧ (M.pg A).length < 8 ∧ (readR (onceM M A s false) (A : Int) ((M.pg A).length : Int)).2 = 0)) := hdn
    clear hdn
    refine (sheets_any cb (onceM M A s true) _ hc10).mono ?_
    rintro r wA ⟨⟨cs2, rfl, hS2⟩, hxA⟩
    obtain ⟨hsc, hN, hxB⟩ := box69 cs2 _ wA hS2
    have hcB := (hc10.ext hxA).ext hxB
    have hBB := (hB10.ext hxA).ext hxB
    have hWB := (hW10.ext hxA).ext hxB
    have hxx := (hx10.trans hxA).trans hxB
    obtain ⟨_, g1, g2, g3, _⟩ := act_cells hBB
    dsimp only at g1 g2 g3
    have hcz2 := hS2.size
    clear hxA hxB hBB
    go_wp2_with fail
    generalize (wA.alloc (.cells Z69 69)).setCells wA.heap.size 0 cs2.toList = wB at *
    clear hsc
    generalize wA.heap.size = nb at *
    have cells4 : ∀ b p, b < 24 → p < 8 → ¬ (b = A ∧ (true = true ∨ p = (M.pg A).length)) → wB.cell? ⟨nb, b * 16 + p * 2, none⟩ = some (.string (txtL (readR M (b : Int) (p : Int)).1)) ∧ wB.cell? ⟨nb, b * 16 + p * 2 + 1, none⟩ = some (.int .i64 (readR M (b : Int) (p : Int)).2) ∧
        wB.cell? ⟨wb, b * 16 + p * 2, none⟩ = some (.string (txtL (readR M (b : Int) (p : Int)).1)) ∧ wB.cell? ⟨wb, b * 16 + p * 2 + 1, none⟩ = some (.int .i64 (readR M (b : Int) (p : Int)).2) := by
      intro b p hb hp hn
      have e1 := once_stays hbd A s true b p hb hp hn
      refine ⟨?_, ?_, ?_, ?_⟩
      · rw [hN.cell, hS2.s b p hb hp (by omega)]; unfold sheetS; rw [e1]
      · rw [hN.cell, hS2.e b p hb hp (by omega)]; unfold sheetN; rw [e1]
      · rw [hWB.cell, hS.s b p hb hp (by omega)]; rfl
      · rw [hWB.cell, hS.e b p hb hp (by omega)]; rfl
    have HC4 : Hid (∀ b p, b < 24 → p < 8 → ¬ (b = A ∧ (true = true ∨ p = (M.pg A).length)) → wB.cell? ⟨nb, b * 16 + p * 2, none⟩ = some (.string (txtL (readR M (b : Int) (p : Int)).1)) ∧ wB.cell? ⟨nb, b * 16 + p * 2 + 1, none⟩ = some (.int .i64 (readR M (b : Int) (p : Int)).2) ∧
        wB.cell? ⟨wb, b * 16 + p * 2, none⟩ = some (.string (txtL (readR M (b : Int) (p : Int)).1)) ∧ wB.cell? ⟨wb, b * 16 + p * 2 + 1, none⟩ = some (.int .i64 (readR M (b : Int) (p : Int)).2)) := cells4
    have HE9 : Hid (∀ p, p < 8 → wB.cell? ⟨nb, A * 16 + p * 2 + 1, none⟩ = some (.int .i64 (readR (onceM M A s true) (A : Int) (p : Int)).2)) := by
      intro p hp; rw [hN.cell, hS2.e A p hA24 hp (by omega)]; rfl
    clear cells4 hst z0
    go_loopw [13, 14] (fun i _ wx => ∃ (b q : Nat), b ≤ 24 ∧ i = .int .i64 b ∧ wx = wB.drewN q) (fun i _ _ => 24 - (intOf i).toNat)
    case atStart => exact ⟨0, 0, Nat.zero_le _, rfl, rfl⟩
    case round =>
      obtain ⟨b, q, hb24, rfl, rfl⟩ := hrel
      by_cases hb : b < 24
      · have hb' : (b : Int) < 24 := by omega
        have hb0 : (0 : Int) ≤ (b : Int) := by omega
        go_wp2_with fail
        go_loopw [14] (fun j wx => ∃ (p q : Nat), p ≤ 8 ∧ j = .int .i64 p ∧ wx = wB.drewN q) (fun j _ => 8 - (intOf j).toNat)
        case atStart => exact ⟨0, q, Nat.zero_le _, rfl, rfl⟩
        case round =>
          obtain ⟨p, q, hp8, rfl, rfl⟩ := hrel
          by_cases hlp : p < 8
          · have hlp' : (p : Int) < 8 := by omega
            have hp0 : (0 : Int) ≤ (p : Int) := by omega
            have cells4 := HC4.out
            have hst := True.intro
            by_cases hbA : b = A
            · have hbA' : ((b : Int) == (A : Int)) = true := by simp; omega
              clear hst
              go_wp2_with fail
              go_roundw
              case rel => exact ⟨p + 1, q, by omega, by go_num, rfl⟩
              case measure => simp [intOf]; omega
            · have hbA' : ((b : Int) == (A : Int)) = false := by simp; omega
              obtain ⟨n0, n1, v0, v1⟩ := cells4 b p hb hlp (by intro hh; exact hbA hh.1)
              clear hst
              generalize readR M (b : Int) (p : Int) = rr at *
              go_wp2_with fail
              go_quiet (fail)
              go_wp2
              go_roundw
              case rel => exact ⟨p + 1, _, by omega, by go_num, rfl⟩
              case measure => simp [intOf]; omega
          · have hp88 : p = 8 := by omega
            subst hp88
            go_wp2_with fail
            go_roundw
            case rel => exact ⟨b + 1, q, by omega, by go_num, rfl⟩
            case measure => simp [intOf]; omega
      · have hb24' : b = 24 := by omega
        subst hb24'
        by_cases h0 : eraseE (writeM M (A : Int) s) (A : Int) = 0
        · have he : errV (eraseE (writeM M (A : Int) s) (A : Int)) = .nilIface := by rw [h0]; rfl
          rw [he]
          obtain ⟨k1, k2⟩ := HD.out.1 h0
          have hcQ := hcB.ext ((Ext.refl wB).drewN q)
          have t1 : ((((onceM M A s true).pg A).length : Int) == 0) = true := by rw [k1]; simp
          have t2 : (((onceM M A s true).wr A : Int) == (M.wr A : Int) + 1) = true := by rw [k2]; simp
          clear k1 k2
          go_wp2_with (first
            | (go_at_call 43; refine (next_any cb A _ _ hA24 hcQ).mono ?_; rintro r wx ⟨rfl, hwx⟩; subst wx)
            | (go_at_call 46; refine (wear_any cb A _ _ hA24 hcQ).mono ?_; rintro r wx ⟨rfl, hwx⟩; subst wx))
          go_ret
          exact ⟨rfl, hxx.drewN q⟩
        · have he : errV (eraseE (writeM M (A : Int) s) (A : Int)) = .iface 123 (.int .i64 (eraseE (writeM M (A : Int) s) (A : Int))) := by unfold errV; rw [if_neg h0]
          rw [he]
          generalize eraseE (writeM M (A : Int) s) (A : Int) = en at *
          go_wp2_with fail
          go_ret
          exact ⟨rfl, hxx.drewN q⟩

end Go.Proofs.Ytpldeejagomfjaa
