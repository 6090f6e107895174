/- BatB. -/
import Derived.Test.YthndopokabceiaaDoorBatAJ
import Derived.Laws.MakeOwn

/- Changes as a text: change, Text. -/
namespace Go.Proofs.YthndopokabceiaaDoor
open Go.RowKit Go.WideShapes

theorem glob_ext {w w' : World} (h : Tryd.Glob w) (hx : Ext w w') : Tryd.Glob w' := by
  obtain ⟨m, hm⟩ := h
  exact ⟨m, hx.cell hm⟩
set_option maxHeartbeats 1000000 in
theorem sclone_any (s : ByteArray) (w : World) (hs : s.size ≤ 281474976710656) :
    Calls Tryd.prog 100 #[.string s] w fun e w' => e = .returned (.string s) ∧ Ext w w' := by
  have HC : Hid (Calls Tryd.prog 132 #[.string s] w fun e w' => e = .returned (.string s) ∧ Ext w w') := (Tryd.stringslite_Clone s w hs).mono fun e w' ⟨h1, h2⟩ => ⟨h1, ⟨h2⟩⟩
  go_enter Tryd.func100, Tryd.ntmps100
  go_wp2_with (go_at_call 132; refine HC.out.mono ?_; rintro e w1 ⟨rfl, hx1⟩)
  go_ret
  exact ⟨rfl, hx1⟩
/-- The change of a word. -/
def cutE (s : ByteArray) : ByteArray × ByteArray × Bool := (⟨(Lib.cut s.data.toList [61]).1.toArray⟩, ⟨(Lib.cut s.data.toList [61]).2.1.toArray⟩, (Lib.cut s.data.toList [61]).2.2)
def changeE (s : ByteArray) : Ent := ⟨(cutE s).1, (cutE s).2.1, !(cutE s).2.2⟩
theorem cutE_le (s : ByteArray) : (cutE s).1.size ≤ s.size ∧ (cutE s).2.1.size ≤ s.size := by
  unfold cutE Lib.cut
  have e : s.data.size = s.size := rfl
  split
  · constructor
    · show (List.take _ s.data.toList).toArray.size ≤ s.size
      first | (simp; done) | (simp; omega)
    · show (List.drop _ s.data.toList).toArray.size ≤ s.size
      first | (simp; done) | (simp; omega)
  · constructor
    · show s.data.toList.toArray.size ≤ s.size
      simp [e]
    · show ([] : List UInt8).toArray.size ≤ s.size
      simp
set_option maxHeartbeats 2000000 in
theorem change_any (s : ByteArray) (w : World) (hs : s.size < 4294967281) (hg : Tryd.Glob w) :
    Calls Tryd.prog 60 #[.string s] w fun e w' => e = .returned (entV (changeE s)) ∧ Ext w w' := by
  have hle := cutE_le s
  have HC : Hid (∀ W, Ext w W → Calls Tryd.prog 99 #[.string s, .string ⟨#[61]⟩] W fun e w' => e = .returned (.tuple #[.string (cutE s).1, .string (cutE s).2.1, .bool (cutE s).2.2]) ∧ Ext W w') := fun W hx => by
    obtain ⟨m, hm⟩ := glob_ext hg hx
    refine (Tryd.strings_Cut s ⟨#[61]⟩ m W hs hm).mono ?_
    rintro e w' ⟨rfl, n, rfl⟩
    exact ⟨rfl, (Ext.refl W).drewN n⟩
  have HK : Hid (∀ (t : ByteArray) W, t.size ≤ s.size → Calls Tryd.prog 100 #[.string t] W fun e w' => e = .returned (.string t) ∧ Ext W w') := fun t W ht => sclone_any t W (by omega)
  unfold changeE
  generalize cutE s = c at *
  obtain ⟨k, v, f⟩ := c
  dsimp only at hle HC ⊢
  obtain ⟨hk, hv⟩ := hle
  have hx0 : Ext w (w.alloc (.cells #[.string ⟨#[]⟩, .string ⟨#[]⟩, .bool false] 34)) := (Ext.refl w).alloc _
  have b2 : Blk (w.alloc (.cells #[.string ⟨#[]⟩, .string ⟨#[]⟩, .bool false] 34)) w.heap.size #[.string ⟨#[]⟩, .string ⟨#[]⟩, .bool false] 34 := Blk.new w _ _
  have t1 : True := trivial
  go_enter Tryd.func60, Tryd.ntmps60
  go_wp2_with (first
    | (go_at_call 99; refine (HC.out _ hx0).mono ?_; rintro e w1 ⟨rfl, hx1⟩)
    | (go_at_call 100; have _t := t1; refine (HK.out k _ hk).mono ?_; rintro e w2 ⟨rfl, hx2⟩; clear t1)
    | (go_at_call 100; refine (HK.out v _ hv).mono ?_; rintro e w3 ⟨rfl, hx3⟩; have B2 := ((b2.ext hx1).ext hx2).ext hx3; have c0 := B2.cell 0; have c1 := B2.cell 1; have c2 := B2.cell 2; have f0 := B2.free 0; have f1 := B2.free 1; have f2 := B2.free 2))
  have E2 := ((B2.set 0 (.string k)).set 1 (.string v)).set 2 (.bool !f)
  have e0 := E2.cell 0
  have e1 := E2.cell 1
  have e2 := E2.cell 2
  refine bodyPost_ret (v := .agg #[.string k, .string v, .bool !f]) (by simp [results, Tryd.results60, go_sem, e0, e1, e2]) rfl ⟨rfl, ?_⟩
  exact (((((hx0.trans hx1).trans hx2).trans hx3).set (p := ⟨w.heap.size, 0, none⟩) (Nat.le_refl _) _).set (p := ⟨w.heap.size, 1, none⟩) (Nat.le_refl _) _).set (p := ⟨w.heap.size, 2, none⟩) (Nat.le_refl _) _
/-- What is wrong with changes, in their order; their words; their text. -/
def textS : List Ent → Int
  | [] => 0
  | e :: es => if ¬ checkC e.key e.val e.gone = 0 then checkC e.key e.val e.gone else textS es
def wordsE (es : List Ent) : List ByteArray := es.map fun e => wordE e.key e.val e.gone
def joinE (es : List Ent) : ByteArray := ⟨(Lib.join ((wordsE es).map (·.data.toList)) [32]).toArray⟩
def textT (es : List Ent) : ByteArray × Int := if es.length = 0 ∨ 4 < es.length then (⟨#[]⟩, 2) else if ¬ textS es = 0 then (⟨#[]⟩, textS es) else (joinE es, 0)
theorem textS_step (es : List Ent) (k : Nat) (e : Ent) (h : es[k]? = some e) : textS (es.drop k) = if ¬ checkC e.key e.val e.gone = 0 then checkC e.key e.val e.gone else textS (es.drop (k + 1)) := by
  have : es.drop k = e :: es.drop (k + 1) := by
    rw [List.drop_eq_getElem_cons (List.getElem?_eq_some_iff.1 h).1]
    rw [(List.getElem?_eq_some_iff.1 h).2]
  rw [this]
  rfl
theorem wordsE_take (es : List Ent) (k : Nat) (e : Ent) (h : es[k]? = some e) : wordsE (es.take (k + 1)) = wordsE (es.take k) ++ [wordE e.key e.val e.gone] := by
  unfold wordsE
  rw [List.take_add_one, h]
  simp
theorem checkC_ok {k v : ByteArray} {g : Bool} (h : checkC k v g = 0) : k.size ≤ 8 ∧ v.size ≤ 16 := by
  unfold checkC at h
  by_cases hf : faultB k v g = 0
  · unfold faultB at hf
    split at hf
    · cases hf
    · split at hf
      · cases hf
      · rename_i h2; simp at h2; omega
  · rw [if_pos hf] at h; exact absurd h hf
theorem Tryd.infoStr : (Tryd.prog.info? 9).map (fun i => (i.zero, i.size, i.bytes)) = some (some (.string ⟨#[]⟩), 1, 16) := by kernel_rfl
def Small (es : List Ent) : Prop := ∀ e ∈ es, e.key.size ≤ 9223372036854775807 ∧ e.val.size ≤ 9223372036854775807
def TextEnd (w : World) (r : ByteArray × Int) (e : Ending) (w' : World) : Prop := e = .returned (.tuple #[.string r.1, errV r.2]) ∧ Ext w w'
theorem join_le (es : List Ent) (hl : es.length ≤ 4) (h : ∀ e ∈ es, e.key.size ≤ 8 ∧ e.val.size ≤ 16) : (Lib.join ((wordsE es).map (·.data.toList)) [32]).length ≤ 140737488355328 := by
  have hw : ∀ x ∈ (wordsE es).map (·.data.toList), x.length ≤ 25 := fun x hx => by
    obtain ⟨y, hy, rfl⟩ := List.mem_map.1 hx
    obtain ⟨e, he, rfl⟩ := List.mem_map.1 hy
    obtain ⟨h1, h2⟩ := h e he
    unfold wordE
    have e1 : e.key.data.size = e.key.size := rfl
    have e2 : e.val.data.size = e.val.size := rfl
    split
    · simp; omega
    · simp; omega
  have hl' : ((wordsE es).map (·.data.toList)).length ≤ 4 := by simp [wordsE]; omega
  generalize (wordsE es).map (·.data.toList) = xs at *
  match xs, hl' with
  | [], _ => simp [Lib.join, List.intercalate]
  | [a], _ => have := hw a (by simp); simp [Lib.join, List.intercalate]; omega
  | [a, b], _ => have := hw a (by simp); have := hw b (by simp); simp [Lib.join, List.intercalate]; omega
  | [a, b, c], _ => have := hw a (by simp); have := hw b (by simp); have := hw c (by simp); simp [Lib.join, List.intercalate]; omega
  | [a, b, c, d], _ => have := hw a (by simp); have := hw b (by simp); have := hw c (by simp); have := hw d (by simp); simp [Lib.join, List.intercalate]; omega
set_option maxRecDepth 20000 in
set_option maxHeartbeats 4000000 in
theorem text_any (ao : Option Addr) (cap : Nat) (es : List Ent) (w : World) (hl : es.length ≤ 9223372036854775807) (hes : EntsAt w ao es) (hsm : Small es) :
    Calls Tryd.prog 23 #[.slice ao es.length cap] w (TextEnd w (textT es)) := by
  by_cases hn : es.length = 0 ∨ 4 < es.length
  · have HF : Hid (textT es = (⟨#[]⟩, 2)) := by unfold textT Hid; rw [if_pos hn]
    rw [HF.out]
    clear hes
    rcases hn with h0 | h0
    · have h0' : ((es.length : Int) == 0) = true := by rw [beq_iff_eq]; omega
      go_enter Tryd.func23, Tryd.ntmps23
      go_wp2
      go_ret2
      exact ⟨rfl, Ext.refl _⟩
    · have h0' : ((es.length : Int) == 0) = false := by rw [beq_eq_false_iff_ne]; omega
      have h1' : (4 : Int) < (es.length : Int) := by omega
      go_enter Tryd.func23, Tryd.ntmps23
      go_wp2
      go_ret2
      exact ⟨rfl, Ext.refl _⟩
  · have h0' : ((es.length : Int) == 0) = false := by rw [beq_eq_false_iff_ne]; omega
    have h1' : ¬ (4 : Int) < (es.length : Int) := by omega
    have hll : es.length ≤ 4 := by omega
    have HF : Hid (textT es = if ¬ textS es = 0 then (⟨#[]⟩, textS es) else (joinE es, 0)) := by unfold textT Hid; rw [if_neg hn]
    clear hn
    have hmk := run_make_row' (P := Tryd.prog) 102 9 (.string ⟨#[]⟩) 16 Tryd.underlying102 Tryd.infoStr rfl .i64 .i64 es.length (by omega) (by omega)
    rw [show madeCells #[.string ⟨#[]⟩] es.length = Lib.cellsOf [] es.length from (Lib.cellsOf_nil es.length).symm] at hmk
    go_enter Tryd.func23, Tryd.ntmps23
    go_wp2_with fail
    have hB0 : Blk (w.alloc (.cells (Lib.cellsOf [] es.length) 9)) w.heap.size (Lib.cellsOf [] es.length) 9 := Blk.new _ _ _
    clear hmk
    go_loopw [22] (fun i wr => ∃ k : Nat, k ≤ es.length ∧ i = .int .i64 k ∧ textS es = textS (es.drop k) ∧ (∀ j e, j < k → es[j]? = some e → checkC e.key e.val e.gone = 0) ∧ Blk wr w.heap.size (Lib.cellsOf (wordsE (es.take k)) es.length) 9 ∧ Ext w wr) (fun i _ => es.length - (intOf i).toNat)
    case atStart => exact ⟨0, Nat.zero_le _, rfl, rfl, fun j e h => by omega, hB0, (Ext.refl w).alloc _⟩
    case round =>
      clear hB0
      obtain ⟨k, hk, rfl, hsc, hok, hB, hx⟩ := hrel
      by_cases hlt : k < es.length
      · obtain ⟨b, off, ek, ev, eg, rfl, he, h1, h2, h3⟩ := hes.get hlt
        have hst := textS_step es k ⟨ek, ev, eg⟩ he
        dsimp only at hst
        rw [hst] at hsc
        have g1 := hx.cell h1
        have g2 := hx.cell h2
        have g3 := hx.cell h3
        have hs2 := hsm _ (List.mem_of_getElem? he)
        dsimp only at hs2
        have hbl : b < wr.heap.size := by
          rcases Nat.lt_or_ge b wr.heap.size with h' | h'
          · exact h'
          · simp [World.cell?, Array.getElem?_eq_none h'] at g1
        have HCK := fun W => bcheck_any ek ev eg W hs2.1 hs2.2
        have b6 : Blk (wr.alloc (.cells #[.string ek, .string ev, .bool eg] 34)) wr.heap.size #[.string ek, .string ev, .bool eg] 34 := Blk.new _ _ _
        have bB := hB.alloc (.cells #[.string ek, .string ev, .bool eg] 34)
        by_cases hf : checkC ek ev eg = 0
        · rw [if_neg (by simp [hf])] at hsc
          have HC0 : Hid (∀ W, Calls Tryd.prog 54 #[.agg #[.string ek, .string ev, .bool eg]] W fun e w' => e = .returned .nilIface ∧ Ext W w') := fun W => by
            have := HCK W; rw [hf] at this; exact this
          obtain ⟨hk8, hv16⟩ := checkC_ok hf
          have HW : Hid (∀ W, Calls Tryd.prog 55 #[.agg #[.string ek, .string ev, .bool eg]] W fun e w' => e = .returned (.string (wordE ek ev eg)) ∧ Ext W w') := fun W => word_any ek ev eg W (by omega) (by omega)
          have HSC : Hid (textS es = textS (es.drop (k + 1))) := hsc
          have HOK : Hid (∀ j e, j < k + 1 → es[j]? = some e → checkC e.key e.val e.gone = 0) := fun j e hj hje => by
            rcases Nat.lt_or_eq_of_le (Nat.le_of_lt_succ hj) with h | h
            · exact hok j e h hje
            · subst h; rw [he] at hje; cases hje; exact hf
          have hwl : (wordsE (es.take k)).length = k := by simp [wordsE]; omega
          have HSET : Hid ((Lib.cellsOf (wordsE (es.take k)) es.length).setIfInBounds k (.string (wordE ek ev eg)) = Lib.cellsOf (wordsE (es.take (k + 1))) es.length) := by
            rw [Hid, wordsE_take es k _ he]
            have := Lib.cellsOf_set (done := wordsE (es.take k)) (N := es.length) (by omega) (wordE ek ev eg)
            rw [hwl] at this
            exact this
          have HNX : Hid ((Lib.cellsOf (wordsE (es.take k)) es.length)[k]? = some (.string ByteArray.empty)) := by
            have := Lib.cellsOf_next (done := wordsE (es.take k)) (N := es.length) (by omega)
            rw [hwl] at this
            exact this
          clear hsc hst hf hok HCK he h1 h2 h3 hs2
          generalize wordE ek ev eg = wd at *
          go_wp2_with (first
            | (go_at_call 54; refine (HC0.out _).mono ?_; rintro e w2 ⟨rfl, hx2⟩; have c0 : w2.cell? ⟨wr.heap.size, 0, none⟩ = some (.string ek) := (b6.ext hx2).cell 0; have c1 : w2.cell? ⟨wr.heap.size, 1, none⟩ = some (.string ev) := (b6.ext hx2).cell 1; have c2 : w2.cell? ⟨wr.heap.size, 2, none⟩ = some (.bool eg) := (b6.ext hx2).cell 2)
            | (go_at_call 55; refine (HW.out _).mono ?_; rintro e w3 ⟨rfl, hx3⟩; have s4 : w3.cell? ⟨w.heap.size, k, none⟩ = some (.string ByteArray.empty) := (((bB.ext hx2).ext hx3).cell k).trans HNX.out; have s5 := ((bB.ext hx2).ext hx3).free k))
          go_roundw
          case rel => exact ⟨k + 1, by omega, by go_num, HSC.out, HOK.out, by rw [← HSET.out]; exact ((bB.ext hx2).ext hx3).set k _, (((hx.alloc _).trans hx2).trans hx3).set (p := ⟨w.heap.size, k, none⟩) (Nat.le_refl _) _⟩
          case measure => simp [intOf]; omega
        · have HCF : Hid (∀ W, Calls Tryd.prog 54 #[.agg #[.string ek, .string ev, .bool eg]] W fun e w' => e = .returned (.iface 82 (.int .i64 (checkC ek ev eg))) ∧ Ext W w') := fun W => by
            have := HCK W; unfold errV at this; rw [if_neg hf] at this; exact this
          rw [if_pos hf] at hsc
          have HR : Hid (textT es = (⟨#[]⟩, checkC ek ev eg)) := by rw [Hid, HF.out, hsc, if_pos hf]
          have HV : Hid (errV (checkC ek ev eg) = .iface 82 (.int .i64 (checkC ek ev eg))) := by unfold errV Hid; rw [if_neg hf]
          clear hsc hst hf hok HCK he h1 h2 h3 hs2 hB bB
          generalize checkC ek ev eg = f at *
          go_wp2_with (go_at_call 54; refine (HCF.out _).mono ?_; rintro e w2 ⟨rfl, hx2⟩)
          go_ret2
          exact ⟨by rw [HR.out, HV.out]; rfl, (hx.alloc _).trans hx2⟩
      · have hkl : k = es.length := by omega
        subst hkl
        rw [List.drop_length] at hsc
        have HR : Hid (textT es = (joinE es, 0)) := by rw [Hid, HF.out, if_neg (by rw [hsc]; simp [textS])]
        rw [List.take_length] at hB
        have hwl : (wordsE es).length = es.length := by simp [wordsE]
        have HJ : Hid (Calls Tryd.prog 56 #[.slice (some ⟨w.heap.size, 0, none⟩) es.length es.length, .string ⟨#[32]⟩] wr fun e w' => e = .returned (.string (joinE es)) ∧ Ext wr w') := by
          have := Tryd.strings_Join w.heap.size 0 es.length (wordsE es) ⟨#[32]⟩ wr (fun j x hj => by
            have hjl := (List.getElem?_eq_some_iff.1 hj).1
            rw [Nat.zero_add, hB.cell]
            unfold Lib.cellsOf
            rw [List.getElem?_toArray, List.getElem?_append_left (by simpa using hjl), List.getElem?_map, hj]
            rfl) hB.lt (by omega) (by omega) (join_le es hll (fun e he => by
              obtain ⟨j, hj⟩ := List.getElem?_of_mem he
              exact checkC_ok (hok j e (List.getElem?_eq_some_iff.1 hj).1 hj)))
          rw [hwl] at this
          exact this.mono fun e w' ⟨h1, h2⟩ => ⟨h1, ⟨h2⟩⟩
        clear hsc hok hB hes HF
        rw [HR.out]
        generalize joinE es = jt at *
        go_wp2_with (go_at_call 56; refine HJ.out.mono ?_; rintro e w2 ⟨rfl, hx2⟩)
        go_ret2
        refine ⟨?_, hx.trans hx2⟩
        have HE : errV (0 : Int) = .nilIface := rfl
        first | (rw [HR.out]; show _ = Ending.returned (.tuple #[.string jt, errV 0]); rw [HE]; rfl) | (show _ = Ending.returned (.tuple #[.string jt, errV 0]); rw [HE]; rfl)
end Go.Proofs.YthndopokabceiaaDoor
