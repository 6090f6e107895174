/- TopB. -/
import Derived.Test.YthndopokabceiaaDoorSmnBJ

/- TopBad. -/
namespace Go.Proofs.YthndopokabceiaaDoor
open Go.RowKit Go.WideShapes

/-- The first j bad blocks, as an array. -/
def badC (f : Nat → Bool) (j : Nat) : Array Value := ((List.range 24).map fun i : Nat => Value.bool (decide (i < j) && f i)).toArray
theorem badC_nil (f : Nat → Bool) : badC f 0 = #[.bool false, .bool false, .bool false, .bool false, .bool false, .bool false, .bool false, .bool false, .bool false, .bool false, .bool false, .bool false, .bool false, .bool false, .bool false, .bool false, .bool false, .bool false, .bool false, .bool false, .bool false, .bool false, .bool false, .bool false] := by rfl
theorem badC_get (f : Nat → Bool) (j n : Nat) (h : n < 24) : (badC f j)[n]? = some (.bool (decide (n < j) && f n)) := by
  simp [badC, h]
theorem badC_set (f : Nat → Bool) (j : Nat) : (badC f j).setIfInBounds j (.bool (f j)) = badC f (j + 1) := by
  apply Array.ext'
  unfold badC
  simp only [Array.toList_setIfInBounds]
  apply List.ext_getElem?
  intro i
  rw [List.getElem?_set]
  by_cases hi : i < 24
  · by_cases hij : j = i
    · subst hij
      simp [hi]
    · simp only [hij, if_false, List.getElem?_map, List.getElem?_range hi, Option.map_some]
      have : decide (i < j) = decide (i < j + 1) := by
        have : (i < j) ↔ (i < j + 1) := by omega
        simp [this]
      rw [this]
  · have h1 : (List.map (fun i : Nat => Value.bool (decide (i < j + 1) && f i)) (List.range 24))[i]? = none := by simp; omega
    have h2 : (List.map (fun i : Nat => Value.bool (decide (i < j) && f i)) (List.range 24))[i]? = none := by simp; omega
    rw [h1]
    split
    · split
      · rename_i h3 h4; simp at h4; omega
      · rfl
    · exact h2
/-- What a flush leaves: the log, and the new tables, are on blocks that weren't bad. -/
structure BadE (w W w' : World) (S : List Nat) (n sb cb k : Nat) (R : List Ent) (m : Man) (f : Nat → Bool) : Prop where
  ex : ∃ S' m', Up n w' S' sb cb m' k R ∧ Ext w w' ∧ Kp W w' S ∧ (∃ g : Nat, m'.lg = (g : Int) ∧ g < 24 ∧ f g = false) ∧ (∀ b : Int, b ∈ m'.nw → ∃ z : Nat, b = (z : Int) ∧ z < 24 ∧ (b ∈ m.nw ∨ f z = false))
theorem flush_bad {n : Nat} {w W : World} {S : List Nat} {sb cb : Nat} {M : CM} {m : Man} {a : Nat} {x : SMem} {N O : List Tb} {k : Nat} {R : List Ent} (hn : n ≤ 80000) (hx : Ext w W) (hS : ∀ b ∈ S, w.heap.size ≤ b) (h1 : StoAt W S sb cb M m a x) (h2 : Inv n M m a (x.ns.map Nd.e) N O) (h3 : rowsE (x.ns.map Nd.e) N O = R) (h4 : M.left = -1) (h5 : wkN M.wk ≤ k) :
    Calls Tryd.prog 21 #[.pointer (some ⟨sb, 0, none⟩)] W fun e w' => e = .returned .nilIface ∧ BadE w W w' S (n + 9) sb cb k R m M.bd := by
  have := flush_any n W S sb cb M m a x N O h1 h2 (by omega) hn
  rw [h3] at this
  refine this.mono fun _ w' hO => ?_
  cases hO with
  | ok M' m' a' x' S' N' O' he hs hi hr hl' hq hw hk' hS' hQ =>
    obtain ⟨q1, q2, ⟨g, q3, q4, q5, q6⟩, q7⟩ := hQ
    have hnm := (man_names hi.ok).1
    refine ⟨he, ⟨S', m', ⟨M', a', x', N', O', hs, hi, hr, by rw [hl' (by omega)]; exact h4, by rw [hw]; exact h5, q1⟩, Kp.ext hx hk' hS, hk', ⟨g, q3, ?_, q5⟩, fun b hb => ?_⟩⟩
    · have := hnm m'.lg (by simp); omega
    · have hb' := hnm b (by simp [hb])
      obtain ⟨z, rfl⟩ : ∃ z : Nat, b = (z : Int) := ⟨b.toNat, by omega⟩
      exact ⟨z, rfl, by omega, q7 z hb⟩
  | fell M' he hl' => exact absurd (show M.left < 0 by omega) hl'
set_option maxRecDepth 20000 in
set_option maxHeartbeats 4000000 in
theorem topBad_any (ao : Option Addr) (cap : Nat) (acs : List ActE) (w : World) (hg : GlobT w) (hl : acs.length ≤ 9223372036854775807) (has : ActsAt w ao acs) :
    Calls Tryd.prog 8 #[.slice ao acs.length cap] w fun e w' => e = .returned (.bool true) ∧ Ext w w' := by
  have HW := worksH w hg
  cases hf : fillB acs with
  | false =>
    have HF := filledN ao cap acs w hl has hf
    clear has hf hg
    go_enter Tryd.func8, Tryd.ntmps8
    go_wp2_with (first
      | (go_at_call 12; refine HW.out.mono ?_; rintro e w1 ⟨rfl, hx1⟩)
      | (go_at_call 13; refine (HF.out _ hx1).mono ?_; rintro e w2 ⟨rfl, rfl⟩))
    go_ret
    exact ⟨rfl, hx1⟩
  | true =>
    have HF := filledY ao cap acs w hg hl has hf
    generalize weakN acs = k at *
    generalize fillR acs = R at *
    clear has hf hg
    go_enter Tryd.func8, Tryd.ntmps8
    go_wp2_with (first
      | (go_at_call 12; refine HW.out.mono ?_; rintro e w1 ⟨rfl, hx1⟩)
      | (go_at_call 13; refine (HF.out _ hx1).mono ?_; rintro e w2 ⟨cb, sb, S, m, rfl, hU2, hx2, hS2⟩))
    obtain ⟨M, a, x, N, O, q1, hI, q3, q4, q5, q6⟩ := hU2.ex
    have HBD : Hid (∀ W (j : Nat), Ext w2 W → j < 24 → Calls Tryd.prog 20 #[.pointer (some ⟨cb, 0, none⟩), .int .i64 (j : Int)] W fun e w' => e = .returned (.bool (M.bd j)) ∧ W = w') := fun W j hx hj => (bad_any cb j M W hj (q1.chip.ext hx)).mono fun _ _ h => ⟨h.1, h.2.symm⟩
    have HU : Hid (Up 800 w2 S sb cb m k R ∧ (∀ b ∈ S, w.heap.size ≤ b) ∧ Ext w w2 ∧ ∀ b ∈ S, b < w2.heap.size) := ⟨hU2, hS2, hx2, hU2.lt⟩
    have HFB : Hid (∀ W, Ext w2 W → Calls Tryd.prog 21 #[.pointer (some ⟨sb, 0, none⟩)] W fun e w' => e = .returned .nilIface ∧ BadE w W w' S (800 + 9) sb cb k R m M.bd) := fun W hx => flush_bad (by omega) (hx2.trans hx) hS2 (q1.ext hx) hI q3 q4 q5
    have HB0 : Hid (Blk (w2.alloc (.cells #[.bool false, .bool false, .bool false, .bool false, .bool false, .bool false, .bool false, .bool false, .bool false, .bool false, .bool false, .bool false, .bool false, .bool false, .bool false, .bool false, .bool false, .bool false, .bool false, .bool false, .bool false, .bool false, .bool false, .bool false] 48)) w2.heap.size (badC M.bd 0) 48 ∧ Ext w2 (w2.alloc (.cells #[.bool false, .bool false, .bool false, .bool false, .bool false, .bool false, .bool false, .bool false, .bool false, .bool false, .bool false, .bool false, .bool false, .bool false, .bool false, .bool false, .bool false, .bool false, .bool false, .bool false, .bool false, .bool false, .bool false, .bool false] 48))) := ⟨by rw [badC_nil]; exact Blk.new _ _ _, (Ext.refl _).alloc _⟩
    clear hU2 hS2 q1 hI q3 q4 q5 q6 HF HW hx1 hx2
    generalize M.bd = f at *
    go_loopw [7] (fun i wr => ∃ j : Nat, j ≤ 24 ∧ i = .int .i64 j ∧ Blk wr w2.heap.size (badC f j) 48 ∧ Ext w2 wr) (fun i _ => 24 - (intOf i).toNat)
    case atStart => exact ⟨0, by omega, rfl, HB0.out.1, HB0.out.2⟩
    case round =>
      clear HB0
      obtain ⟨j, hj, rfl, hB, hxr⟩ := hrel
      by_cases hlt : j < 24
      · have hlt' : (j : Int) < 24 := by omega
        have HC : Hid (Calls Tryd.prog 20 #[.pointer (some ⟨cb, 0, none⟩), .int .i64 (j : Int)] wr fun e w' => e = .returned (.bool (f j)) ∧ wr = w') := HBD.out wr j hxr hlt
        have b1 : wr.cell? ⟨w2.heap.size, j, none⟩ = some (.bool (decide (j < j) && f j)) := by rw [hB.cell]; exact badC_get f j j hlt
        have z1 := hB.free j
        have HBB : Hid (Blk wr w2.heap.size (badC f j) 48) := hB
        clear HBD HFB hB
        go_wp2_with (go_at_call 20; refine HC.out.mono ?_; rintro e w3 ⟨rfl, rfl⟩)
        go_roundw
        case rel => exact ⟨j + 1, by omega, by go_num, by rw [← badC_set]; exact HBB.out.set j _, hxr.set (p := ⟨w2.heap.size, j, none⟩) (Nat.le_refl _) _⟩
        case measure => simp [intOf]; omega
      · have hj24 : j = 24 := by omega
        subst hj24
        have HBB : Hid (Blk wr w2.heap.size (badC f 24) 48) := hB
        have HM1 : Hid (Calls Tryd.prog 17 #[.pointer (some ⟨sb, 0, none⟩)] wr fun e w' => MnfN wr w' e m) := by
          obtain ⟨hU, _⟩ := HU.out
          have hn := hU.nums
          obtain ⟨M', a', x', N', O', r1, _⟩ := hU.ex
          exact manifestN_any wr S sb cb M' m a' x' (r1.ext hxr) (by omega) (by omega)
        have HM2 : Hid (∀ W S' m', Up (800 + 9) W S' sb cb m' k R → Calls Tryd.prog 17 #[.pointer (some ⟨sb, 0, none⟩)] W fun e w' => MnfN W w' e m') := fun W S' m' hU => by
          have hn := hU.nums
          obtain ⟨M', a', x', N', O', r1, _⟩ := hU.ex
          exact manifestN_any W S' sb cb M' m' a' x' r1 (by omega) (by omega)
        clear HBD hB
        have hzz : w2.heap.size < wr.heap.size := HBB.out.lt
        go_upto_region 16 with (first
          | (go_at_call 21; refine (HFB.out _ hx4').mono ?_; rintro e w5 ⟨rfl, hB5⟩; obtain ⟨S5, m5, hU5, hX5, hK5, hL5, hT5⟩ := hB5.ex)
          | (go_at_call 17; refine (HM2.out _ _ _ hU5).mono ?_; rintro e w6 ⟨e1, f1, e2, f2, rfl, hN6, hO6, hx6, hE6, _⟩)
          | (go_at_call 17; refine HM1.out.mono ?_; rintro e w4 ⟨a1, c1, a2, c2, rfl, hN4, hO4, hx4, hE4, _⟩; have hx4' := (hxr.trans hx4).alloc (.cells #[.int .i64 m.ep, .int .i64 m.lg, .slice a1 m.nw.length c1, .slice a2 m.od.length c2] 41)))
        obtain ⟨w7, hw7⟩ : ∃ w7, w7 = w6.alloc (.cells #[.int .i64 m5.ep, .int .i64 m5.lg, .slice e1 m5.nw.length f1, .slice e2 m5.od.length f2] 41) := ⟨_, rfl⟩
        obtain ⟨w4', hw4'⟩ : ∃ w4', w4' = w4.alloc (.cells #[.int .i64 m.ep, .int .i64 m.lg, .slice a1 m.nw.length c1, .slice a2 m.od.length c2] 41) := ⟨_, rfl⟩
        have hSl := HU.out.2.2.2
        have hz4 : wr.heap.size ≤ w4.heap.size := hx4.size
        have hX67 : Ext w6 w7 := by rw [hw7]; exact (Ext.refl _).alloc _
        have hX44 : Ext w4 w4' := by rw [hw4']; exact (Ext.refl _).alloc _
        have hK5' : Kp w4' w5 S := by rw [hw4']; exact hK5
        have HBA : Hid (∀ W, Ext w7 W → Blk W w2.heap.size (badC f 24) 48) := fun W hx => (((hK5'.Blk ((HBB.out.ext hx4).ext hX44) (fun hm => by have := hSl _ hm; omega)).ext hx6).ext hX67).ext hx
        have HWA : Hid (∀ W, Ext w7 W → W.cell? ⟨w4.heap.size, 2, none⟩ = some (.slice a1 m.nw.length c1)) := fun W hx => ((((hK5'.Blk (show Blk w4' w4.heap.size #[.int .i64 m.ep, .int .i64 m.lg, .slice a1 m.nw.length c1, .slice a2 m.od.length c2] 41 by rw [hw4']; exact Blk.new _ _ _) (fun hm => by have := hSl _ hm; omega)).ext hx6).ext hX67).ext hx).cell 2
        have HWN : Hid (∀ W, Ext w7 W → NumsAt W a1 m.nw) := fun W hx => ((((hN4.ext hX44).kp hK5' (fun p e hm => by have := hSl _ hm; have := hE4 p e; omega)).ext hx6).ext hX67).ext hx
        have HMA : Hid (∀ W, Ext w7 W → W.cell? ⟨w6.heap.size, 1, none⟩ = some (.int .i64 m5.lg) ∧ W.cell? ⟨w6.heap.size, 2, none⟩ = some (.slice e1 m5.nw.length f1)) := fun W hx => by
          have hb : Blk w7 w6.heap.size #[.int .i64 m5.ep, .int .i64 m5.lg, .slice e1 m5.nw.length f1, .slice e2 m5.od.length f2] 41 := by rw [hw7]; exact Blk.new _ _ _
          exact ⟨(hb.ext hx).cell 1, (hb.ext hx).cell 2⟩
        have HMN : Hid (∀ W, Ext w7 W → NumsAt W e1 m5.nw) := fun W hx => (hN6.ext hX67).ext hx
        have hn5 := hU5.nums.1
        have hn4 := HU.out.1.nums.1
        have HTT : Hid (∀ b : Int, b ∈ m5.nw → ∃ z : Nat, b = (z : Int) ∧ z < 24 ∧ (b ∈ m.nw ∨ f z = false)) := hT5
        have hX7 : Ext w w7 := (hX5.trans hx6).trans hX67
        obtain ⟨g, hg1, hg2, hg3⟩ := hL5
        have b1 : w7.cell? ⟨w2.heap.size, g, none⟩ = some (.bool false) := by rw [(HBA.out _ (Ext.refl _)).cell, badC_get f 24 g hg2, hg3]; simp
        have b2 := (HMA.out _ (Ext.refl _)).1
        rw [hg1] at b2
        have hg2' : (g : Int) < 24 := by omega
        rw [← hw7]
        clear HBB HM1 HM2 HFB HU hN4 hO4 hx4 hE4 hx4' hB5 hU5 hX5 hK5 hT5 hN6 hO6 hx6 hE6 hw7 hw4' hSl hX67 hX44 hK5' hxr hg1 hg3 hzz hz4
        generalize w2.heap.size = bb at *
        generalize w4.heap.size = mb1 at *
        generalize w6.heap.size = mb2 at *
        go_wp2_with fail
        clear b1 b2
        go_loopw [10] (fun i wx => ∃ j : Nat, j ≤ m5.nw.length ∧ i = .int .i64 j ∧ Ext w7 wx) (fun i _ => m5.nw.length - (intOf i).toNat)
        case atStart => exact ⟨0, Nat.zero_le _, rfl, Ext.refl _⟩
        case round =>
          obtain ⟨j, hj, rfl, hxr⟩ := hrel
          have d2 := (HMA.out _ hxr).2
          by_cases hlt2 : j < m5.nw.length
          · obtain ⟨nb, nf, z0, rfl, hz, g1⟩ := (HMN.out _ hxr).get hlt2
            obtain ⟨z, rfl, hz24, hzz⟩ := HTT.out z0 (List.mem_of_getElem? hz)
            have HGC : Hid (∀ W, Ext wr W → W.cell? ⟨nb, nf + j, none⟩ = some (.int .i64 (z : Int)) ∧ W.cell? ⟨mb2, 2, none⟩ = some (.slice (some ⟨nb, nf, none⟩) m5.nw.length f1)) := fun W hx => ⟨hx.cell g1, hx.cell d2⟩
            have HZZ : Hid ((z : Int) ∈ m.nw ∨ f z = false) := hzz
            clear hz hzz g1
            go_wp2_with fail
            go_loopw [11, 12] (fun od i wx => ∃ t : Nat, t ≤ m.nw.length ∧ i = .int .i64 t ∧ od = .bool (decide ((z : Int) ∈ m.nw.take t)) ∧ Ext wr wx) (fun _ i _ => m.nw.length - (intOf i).toNat)
            case atStart => exact ⟨0, Nat.zero_le _, rfl, by simp, Ext.refl _⟩
            case round =>
              obtain ⟨t, ht, rfl, rfl, hxx⟩ := hrel
              have k1 := HWA.out _ (hxr.trans hxx)
              obtain ⟨c1', c2'⟩ := HGC.out _ hxx
              by_cases hlt3 : t < m.nw.length
              · obtain ⟨pb, pf, y, rfl, hy, g2⟩ := (HWN.out _ (hxr.trans hxx)).get hlt3
                have HTK : Hid (m.nw.take (t + 1) = m.nw.take t ++ [y]) := by rw [Hid, List.take_add_one, hy]; rfl
                clear hy
                cases ho : decide ((z : Int) ∈ m.nw.take t) with
                | true =>
                  have HO : Hid ((z : Int) ∈ m.nw.take t) := (of_decide_eq_true ho : (z : Int) ∈ m.nw.take t)
                  clear ho
                  go_upto_region 25 with fail
                  go_quiet (fail)
                  go_wp2_with fail
                  go_roundw
                  case rel => exact ⟨t + 1, by omega, by go_num, by rw [HTK.out, decide_eq_true (List.mem_append_left _ HO.out)], hxx.drewN _⟩
                  case measure => simp [intOf]; omega
                | false =>
                  have HO : Hid (¬ (z : Int) ∈ m.nw.take t) := (of_decide_eq_false ho : ¬ (z : Int) ∈ m.nw.take t)
                  clear ho
                  by_cases hyz : y = (z : Int)
                  · subst hyz
                    go_upto_region 25 with fail
                    go_quiet (fail)
                    go_wp2_with fail
                    go_roundw
                    case rel => exact ⟨t + 1, by omega, by go_num, by rw [HTK.out, decide_eq_true (by simp)], hxx.drewN _⟩
                    case measure => simp [intOf]; omega
                  · go_upto_region 25 with fail
                    go_quiet (fail)
                    go_wp2_with fail
                    go_roundw
                    case rel => exact ⟨t + 1, by omega, by go_num, by rw [HTK.out, decide_eq_false (by rw [List.mem_append]; rintro (h | h); exact HO.out h; simp at h; exact hyz h.symm)]; simp [hyz], hxx.drewN _⟩
                    case measure => simp [intOf]; omega
              · have htk : m.nw.take t = m.nw := List.take_of_length_le (by omega)
                rw [htk]
                cases ho : decide ((z : Int) ∈ m.nw) with
                | true =>
                  clear ho
                  go_wp2_with fail
                  go_roundw
                  case rel => exact ⟨j + 1, by omega, by go_num, hxr.trans hxx⟩
                  case measure => simp [intOf]; omega
                | false =>
                  have hfz : f z = false := HZZ.out.resolve_left (of_decide_eq_false ho)
                  have b3 : wr.cell? ⟨bb, z, none⟩ = some (.bool false) := by rw [(HBA.out _ (hxr.trans hxx)).cell, badC_get f 24 z hz24, hfz]; simp
                  have hz24' : (z : Int) < 24 := by omega
                  clear ho hfz
                  go_wp2_with fail
                  go_roundw
                  case rel => exact ⟨j + 1, by omega, by go_num, hxr.trans hxx⟩
                  case measure => simp [intOf]; omega
          · clear HTT
            go_wp2_with fail
            go_ret
            exact ⟨rfl, hX7.trans hxr⟩
end Go.Proofs.YthndopokabceiaaDoor
