/- TopV. -/
import Derived.Test.YthndopokabceiaaDoorValAJ

/- TopOld. -/
namespace Go.Proofs.YthndopokabceiaaDoor
open Go.RowKit Go.WideShapes

/-- The last key of a list; none: no text. -/
def endK (G : List Ent) : ByteArray := match G.getLast? with | some e => e.key | none => ⟨#[]⟩
theorem endK_snoc (G : List Ent) (x : Ent) : endK (G ++ [x]) = x.key := by simp [endK]
theorem less_nil {k : ByteArray} (h : k.toList ≠ []) : Lt ⟨#[]⟩ k := by
  have he : (⟨#[]⟩ : ByteArray).toList = [] := by kernel_rfl
  unfold Lt
  rw [he]
  cases hk : k.toList with
  | nil => exact absurd hk h
  | cons a l => rfl
theorem fault_key {e : Ent} (h : faultE e = 0) : e.key.toList ≠ [] := fun hn => by
  unfold faultE faultB at h
  rw [if_pos (.inl hn)] at h
  exact absurd h (by decide)
theorem endK_lt {G rest : List Ent} {x : Ent} (hr : Ris (G ++ x :: rest)) (hx : x.key.toList ≠ []) : Lt (endK G) x.key := by
  unfold endK
  cases hg : G.getLast? with
  | none => exact less_nil hx
  | some e =>
    have hm := List.mem_of_getLast? hg
    exact (List.pairwise_append.1 hr).2.2 e hm x (by simp)
/-- The entries of the first tables. -/
def flatT (O : List Tb) (j : Nat) : List Ent := (tabsE (O.take j)).flatten
theorem flat_succ {O : List Tb} {j : Nat} {y : Tb} (h : O[j]? = some y) : flatT O (j + 1) = flatT O j ++ y.es := by
  unfold flatT tabsE
  rw [List.take_add_one, h]
  simp
theorem flat_split {O : List Tb} {j t : Nat} {y : Tb} {x : Ent} (h : O[j]? = some y) (hx : y.es[t]? = some x) : ∃ rest, (tabsE O).flatten = (flatT O j ++ y.es.take t) ++ x :: rest := by
  have hj : j < O.length := by
    rcases Nat.lt_or_ge j O.length with h' | h'
    · exact h'
    · rw [List.getElem?_eq_none h'] at h; cases h
  have ht : t < y.es.length := by
    rcases Nat.lt_or_ge t y.es.length with h' | h'
    · exact h'
    · rw [List.getElem?_eq_none h'] at hx; cases hx
  rw [List.getElem?_eq_getElem hj] at h
  rw [List.getElem?_eq_getElem ht] at hx
  have e1 : O = O.take j ++ y :: O.drop (j + 1) := by
    conv => lhs; rw [← List.take_append_drop j O, List.drop_eq_getElem_cons hj, Option.some.inj h]
  have e2 : y.es = y.es.take t ++ x :: y.es.drop (t + 1) := by
    conv => lhs; rw [← List.take_append_drop t y.es, List.drop_eq_getElem_cons ht, Option.some.inj hx]
  refine ⟨y.es.drop (t + 1) ++ (tabsE (O.drop (j + 1))).flatten, ?_⟩
  have e3 : (tabsE O).flatten = flatT O j ++ (y.es ++ (tabsE (O.drop (j + 1))).flatten) := by
    conv => lhs; rw [e1]
    unfold flatT tabsE
    simp
  rw [e3]
  conv => lhs; rw [e2]
  simp
set_option maxRecDepth 20000 in
set_option maxHeartbeats 4000000 in
theorem topOld_any (ao : Option Addr) (cap : Nat) (acs : List ActE) (w : World) (hg : GlobT w) (hl : acs.length ≤ 9223372036854775807) (has : ActsAt w ao acs) :
    Calls Tryd.prog 6 #[.slice ao acs.length cap] w fun e w' => e = .returned (.bool true) ∧ Ext w w' := by
  have HW := worksH w hg
  cases hf : fillB acs with
  | false =>
    have HF := filledN ao cap acs w hl has hf
    clear has hf hg
    go_enter Tryd.func6, Tryd.ntmps6
    go_wp2_with (first
      | (go_at_call 12; refine HW.out.mono ?_; rintro e w1 ⟨rfl, hx1⟩)
      | (go_at_call 13; refine (HF.out _ hx1).mono ?_; rintro e w2 ⟨rfl, rfl⟩))
    go_ret
    exact ⟨rfl, hx1⟩
  | true =>
    have HF := filledY ao cap acs w hg hl has hf
    generalize weakN acs = k at *
    generalize fillR acs = R at *
    have HM := manH w 800 k R
    clear has hf hg
    go_enter Tryd.func6, Tryd.ntmps6
    go_wp2_with (first
      | (go_at_call 12; refine HW.out.mono ?_; rintro e w1 ⟨rfl, hx1⟩)
      | (go_at_call 13; refine (HF.out _ hx1).mono ?_; rintro e w2 ⟨cb, sb, S, m, rfl, hU2, hx2, hS2⟩)
      | (go_at_call 17; refine (HM.out _ _ _ _ _ hx2 hU2).mono ?_; rintro e w3 ⟨a1, c1, a2, c2, rfl, hM3, hx3, hX3⟩))
    obtain ⟨w4, hw4⟩ : ∃ w4, w4 = w3.alloc (.cells #[.int .i64 m.ep, .int .i64 m.lg, .slice a1 m.nw.length c1, .slice a2 m.od.length c2] 41) := ⟨_, rfl⟩
    have hx4 : Ext w3 w4 := by rw [hw4]; exact (Ext.refl _).alloc _
    have HB : Hid (∀ W, Ext w4 W → W.cell? ⟨w3.heap.size, 3, none⟩ = some (.slice a2 m.od.length c2)) := fun W hx => ((show Blk w4 w3.heap.size _ _ by rw [hw4]; exact Blk.new _ _ _).ext hx).cell 3
    obtain ⟨M, a, x, N, O, q1, hI, q3, _⟩ := (hU2.ext (hx3.trans hx4)).ex
    have HOD : Hid (m.od.length = O.length ∧ O.length ≤ 3) := ⟨by rw [hI.od]; simp, hI.few'⟩
    have HT : Hid (∀ W (j : Nat), Ext w4 W → j < O.length → ∃ y b off, O[j]? = some y ∧ y.es.length ≤ 1000 ∧ a2 = some ⟨b, off, none⟩ ∧ W.cell? ⟨b, off + j, none⟩ = some (.int .i64 (y.b : Int)) ∧ Calls Tryd.prog 18 #[.pointer (some ⟨cb, 0, none⟩), .int .i64 (y.b : Int)] W fun e w' => ∃ oo c, e = .returned (.tuple #[.slice oo y.es.length c, .nilIface]) ∧ EntsAt w' oo y.es ∧ Ext W w') := fun W j hx hj => by
      have hy : O[j]? = some O[j] := List.getElem?_eq_getElem hj
      have hm : O[j] ∈ O := List.getElem_mem hj
      obtain ⟨b, off, z, e1, e2, e3⟩ := ((hM3.2.ext hx4).ext hx).get (show j < m.od.length by rw [HOD.out.1]; exact hj)
      have e4 : z = (O[j].b : Int) := by rw [hI.od, List.getElem?_map, hy] at e2; simpa using e2.symm
      subst e4
      refine ⟨O[j], b, off, hy, ?_, e1, e3, ?_⟩
      · have := (tabF_zero (hI.told _ hm).ok).2.1; omega
      · have := tabAll_any cb (O[j].b : Int) M W (q1.chip.ext hx)
        unfold AllEnd at this
        rw [(hI.told _ hm).all hI.nst.up] at this
        exact this
    have HLT : Hid (∀ (j t : Nat) (y : Tb) (z : Ent), O[j]? = some y → y.es[t]? = some z → z.gone = false ∧ Lt (endK (flatT O j ++ y.es.take t)) z.key) := fun j t y z h1 h2 => by
      obtain ⟨rest, hr⟩ := flat_split h1 h2
      have hz : z ∈ (tabsE O).flatten := by rw [hr]; simp
      have hi := hI.ris
      rw [hr] at hi
      refine ⟨hI.live z hz, endK_lt hi (fault_key ?_)⟩
      exact tabF_fault (hI.told y (List.mem_of_getElem? h1)).ok z (List.mem_of_getElem? h2)
    have HFS : Hid (∀ (j : Nat) (y : Tb), O[j]? = some y → flatT O (j + 1) = flatT O j ++ y.es) := fun j y h => flat_succ h
    have hX4 : Ext w w4 := hX3.trans hx4
    rw [← hw4]
    rw [HOD.out.1] at HB
    have hO3 := HOD.out.2
    clear hU2 hS2 hM3 hx3 hX3 hw4 q1 hI q3 HF HW HM HOD hx1 hx2 hx4
    generalize w3.heap.size = mb at *
    go_loopw [7, 8] (fun ky i wr => ∃ j : Nat, j ≤ O.length ∧ i = .int .i64 j ∧ ky = .string (endK (flatT O j)) ∧ Ext w4 wr) (fun _ i _ => O.length - (intOf i).toNat)
    case atStart => exact ⟨0, Nat.zero_le _, rfl, rfl, Ext.refl _⟩
    case round =>
      obtain ⟨j, hj, rfl, rfl, hxr⟩ := hrel
      have b3 := HB.out _ hxr
      by_cases hlt : j < O.length
      · obtain ⟨y, b, off, hy, hyl, rfl, g1, hC⟩ := HT.out wr j hxr hlt
        have HC : Hid (Calls Tryd.prog 18 #[.pointer (some ⟨cb, 0, none⟩), .int .i64 (y.b : Int)] wr fun e w' => ∃ oo c, e = .returned (.tuple #[.slice oo y.es.length c, .nilIface]) ∧ EntsAt w' oo y.es ∧ Ext wr w') := hC
        have HL2 : Hid (∀ (t : Nat) (z : Ent), y.es[t]? = some z → z.gone = false ∧ Lt (endK (flatT O j ++ y.es.take t)) z.key) := fun t z h => HLT.out j t y z hy h
        have HFJ : Hid (flatT O (j + 1) = flatT O j ++ y.es) := HFS.out j y hy
        clear hC hy HT HLT HFS
        go_upto_region 15 with (go_at_call 18; refine HC.out.mono ?_; rintro e w5 ⟨oo, c5, rfl, hE5, hx5⟩)
        have hX5 := hxr.trans hx5
        have HE5 : Hid (EntsAt w5 oo y.es) := hE5
        clear hE5 HC b3 g1
        generalize flatT O j = G at *
        go_wp2_with fail
        go_loopw [7, 11] (fun ky i wx => ∃ t : Nat, t ≤ y.es.length ∧ i = .int .i64 t ∧ ky = .string (endK (G ++ y.es.take t)) ∧ w5 = wx) (fun _ i _ => y.es.length - (intOf i).toNat)
        case atStart => exact ⟨0, Nat.zero_le _, rfl, by simp, rfl⟩
        case round =>
          obtain ⟨t, ht, rfl, rfl, rfl⟩ := hrel
          by_cases hlt2 : t < y.es.length
          · obtain ⟨eb, eo, ek, ev, eg, rfl, he, g1, g2, g3⟩ := HE5.out.get hlt2
            obtain ⟨l1, l2⟩ := HL2.out t _ he
            dsimp only at l1 l2
            subst l1
            have HK : Hid (endK (G ++ y.es.take (t + 1)) = ek) := by
              rw [Hid, List.take_add_one, he, ← List.append_assoc]
              exact endK_snoc _ _
            have hle : (Op.bytesLess ek.toList (endK (G ++ y.es.take t)).toList || ek.toList == (endK (G ++ y.es.take t)).toList) = false := by
              rw [Lt.nless l2.asymm, beq_ne (fun e => l2.ne e.symm)]; rfl
            clear he l2 HL2
            generalize endK (G ++ y.es.take t) = ky at *
            go_wp2_with fail
            go_roundw
            case rel => exact ⟨t + 1, by omega, by go_num, by rw [HK.out], trivial⟩
            case measure => simp [intOf]; omega
          · have HE : Hid (endK (flatT O (j + 1)) = endK (G ++ y.es.take t)) := by rw [Hid, HFJ.out, List.take_of_length_le (by omega)]
            clear HL2 HE5
            generalize endK (G ++ y.es.take t) = ky at *
            go_wp2_with fail
            go_roundw
            case rel => exact ⟨j + 1, by omega, by go_num, by rw [HE.out], hX5⟩
            case measure => simp [intOf]; omega
      · clear HT HLT HFS
        go_wp2_with fail
        go_ret
        exact ⟨rfl, hX4.trans hxr⟩
end Go.Proofs.YthndopokabceiaaDoor
