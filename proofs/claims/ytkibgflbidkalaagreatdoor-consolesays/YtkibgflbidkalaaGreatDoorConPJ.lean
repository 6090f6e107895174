/- ConP. -/
import Derived.Test.YtkibgflbidkalaaGreatDoorConOJ

/- ConsoleSays, given a session that is known. -/
namespace Go.Proofs.YtkibgflbidkalaaGreatDoor
open Go.RowKit Go.WideShapes

theorem pre_iff {s : ByteArray} {l : List UInt8} {k : Nat} (hk : l.length = k) : l <+: s.data.toList ↔ k ≤ s.size ∧ (s.extract 0 k).toList = l := by
  rw [ByteArray.toList_eq, Lib.extract_data]
  simp only [List.drop_zero, Nat.sub_zero]
  constructor
  · rintro ⟨r, hr⟩
    have : s.data.toList.length = s.size := by rw [Lib.size_eq]
    rw [← hr] at this ⊢
    simp at this
    exact ⟨by omega, by rw [← hk]; simp⟩
  · rintro ⟨_, h⟩
    exact ⟨s.data.toList.drop k, by rw [← h]; exact List.take_append_drop k _⟩
theorem doc_new (W : World) (hgl : 1 < W.heap.size) : Doc W ((W.alloc (.cells #[.slice none 0 0] 33)).alloc (.cells #[.pointer (some ⟨W.heap.size, 0, none⟩)] 35)) (W.heap.size + 1) W.heap.size none [] := by
  have hx : Ext W ((W.alloc (.cells #[.slice none 0 0] 33)).alloc (.cells #[.pointer (some ⟨W.heap.size, 0, none⟩)] 35)) := ((Ext.refl W).alloc _).alloc _
  refine ⟨⟨⟨none, 0, (Blk.new W #[.slice none 0 0] 33).alloc _, fun h => absurd rfl h, (fun p e => by cases e), (fun p e => by cases e)⟩, ?_, by omega⟩, Blk.new' _ _ _ (by simp), hx, ⟨Nat.le_refl _, Nat.le_succ _⟩, fun b o e => by cases e⟩
  simp [gL]
set_option maxRecDepth 20000 in
set_option maxHeartbeats 8000000 in
theorem consoleSays_main (ao : Option Addr) (cap : Nat) (ls : List ByteArray) (w : World) (hg : GlobT w) (hm : Tryz.Glob w) (hl : ls.length ≤ 9223372036854775807) (hS : StrsAt w ao ls)
    (HH0 : Calls Tryz.prog 4 #[] w fun e w' => e = .returned (.bool true) ∧ Ext w w') :
    Calls Tryz.prog 3 #[.slice ao ls.length cap] w fun e w' => e = .returned (.bool true) ∧ Ext w w' := by
  have HH : Hid (Calls Tryz.prog 4 #[] w fun e w' => e = .returned (.bool true) ∧ Ext w w') := HH0
  clear HH0
  by_cases h90 : (90 : Int) < (ls.length : Int)
  · clear hg hm hS
    go_enter Tryz.func3, Tryz.ntmps3
    go_wp2_with (go_at_call 4; refine HH.out.mono ?_; rintro e w1 ⟨rfl, hx1⟩)
    go_ret
    exact ⟨rfl, hx1⟩
  have HLS : Hid (StrsAt w ao ls) := hS
  have HG : Hid (GlobT w ∧ Tryz.Glob w) := ⟨hg, hm⟩
  have hl90 : ls.length ≤ 90 := by omega
  clear hS hg hm hl
  go_enter Tryz.func3, Tryz.ntmps3
  go_wp2_with (go_at_call 4; refine HH.out.mono ?_; rintro e w1 ⟨rfl, hx1⟩)
  have HX1 : Hid (Ext w w1) := hx1
  clear HH hx1
  go_loopw [4, 5] (fun i _ wx => ∃ (k : Nat), k ≤ ls.length ∧ i = .int .i64 k ∧ wx = w1 ∧ Hid (∀ s ∈ ls.take k, LineOk s)) (fun i _ _ => ls.length - (intOf i).toNat)
  case atStart => exact ⟨0, Nat.zero_le _, rfl, rfl, by rw [Hid]; simp⟩
  case round =>
    obtain ⟨k, hk, rfl, rfl, hok⟩ := hrel
    by_cases hlt : k < ls.length
    · obtain ⟨b, off, s, rfl, he, hc⟩ := HLS.out.get hlt
      have g1 := HX1.out.cell hc
      have hkl : (k : Int) < (ls.length : Int) := by omega
      have HST : Hid (LineOk s → ∀ s ∈ ls.take (k + 1), LineOk s) := fun h x hx => by
        rw [List.take_add_one, he] at hx
        rcases List.mem_append.1 hx with hx | hx
        · exact hok.out x hx
        · simp at hx; rw [hx]; exact h
      clear he hc hok HG HLS
      by_cases h100 : (100 : Int) < (s.size : Int)
      · go_wp2_with fail
        go_ret
        exact ⟨rfl, HX1.out⟩
      have hA : ([97, 114, 109, 32] <+: s.data.toList ∧ (3 : Int) < (s.size : Int) ∧ ((s.extract 0 4).toList == [97, 114, 109, 32]) = true) ∨ (¬ [97, 114, 109, 32] <+: s.data.toList ∧ (¬ (3 : Int) < (s.size : Int) ∨ ((3 : Int) < (s.size : Int) ∧ ((s.extract 0 4).toList == [97, 114, 109, 32]) = false))) := by
        by_cases ha : [97, 114, 109, 32] <+: s.data.toList
        · obtain ⟨h4, e4⟩ := (pre_iff (k := 4) rfl).1 ha
          exact .inl ⟨ha, by omega, by rw [e4]; rfl⟩
        · refine .inr ⟨ha, ?_⟩
          by_cases h3 : (3 : Int) < (s.size : Int)
          · refine .inr ⟨h3, ?_⟩
            rw [beq_eq_false_iff_ne]
            exact fun e => ha ((pre_iff (k := 4) rfl).2 ⟨by omega, e⟩)
          · exact .inl h3
      have hW : ([119, 101, 97, 107, 101, 110, 32] <+: s.data.toList ∧ (6 : Int) < (s.size : Int) ∧ ((s.extract 0 7).toList == [119, 101, 97, 107, 101, 110, 32]) = true) ∨ (¬ [119, 101, 97, 107, 101, 110, 32] <+: s.data.toList ∧ (¬ (6 : Int) < (s.size : Int) ∨ ((6 : Int) < (s.size : Int) ∧ ((s.extract 0 7).toList == [119, 101, 97, 107, 101, 110, 32]) = false))) := by
        by_cases ha : [119, 101, 97, 107, 101, 110, 32] <+: s.data.toList
        · obtain ⟨h4, e4⟩ := (pre_iff (k := 7) rfl).1 ha
          exact .inl ⟨ha, by omega, by rw [e4]; rfl⟩
        · refine .inr ⟨ha, ?_⟩
          by_cases h3 : (6 : Int) < (s.size : Int)
          · refine .inr ⟨h3, ?_⟩
            rw [beq_eq_false_iff_ne]
            exact fun e => ha ((pre_iff (k := 7) rfl).2 ⟨by omega, e⟩)
          · exact .inl h3
      rcases hA with ⟨_, h3, h3'⟩ | ⟨hA, hA'⟩
      · have h4 : (4 : Int) ≤ (s.size : Int) := by omega
        clear hW HST
        go_wp2_with fail
        go_ret
        exact ⟨rfl, HX1.out⟩
      rcases hW with ⟨_, h6, h6'⟩ | ⟨hW, hW'⟩
      · have h7 : (7 : Int) ≤ (s.size : Int) := by omega
        have h4 : (4 : Int) ≤ (s.size : Int) := by omega
        clear HST hA
        rcases hA' with h3 | ⟨h3, h3'⟩
        · exfalso; omega
        · go_wp2_with fail
          go_ret
          exact ⟨rfl, HX1.out⟩
      cases hb : (s.toList == [98, 108, 111, 99, 107, 115]) with
      | true =>
        clear HST hA hW
        have hs6 : s.size = 6 := by
          have := congrArg List.length (eq_of_beq hb)
          rw [ByteArray.toList_eq, ← Lib.size_eq] at this
          simpa using this
        have h4 : (4 : Int) ≤ (s.size : Int) := by omega
        rcases hA' with h3 | ⟨h3, h3'⟩
        · exfalso; omega
        · rcases hW' with h6 | ⟨h6, h6'⟩
          · clear hs6
            go_wp2_with fail
            go_ret
            exact ⟨rfl, HX1.out⟩
          · exfalso; omega
      | false =>
        have HL : Hid (LineOk s) := ⟨by omega, fun e => (by rw [ByteArray.toList_eq, e] at hb; cases hb), hA, hW⟩
        clear hA hW
        rcases hA' with h3 | ⟨h3, h3'⟩
        · rcases hW' with h6 | ⟨h6, h6'⟩
          · go_wp2_with fail
            go_roundw
            case rel => exact ⟨k + 1, by omega, by go_num, trivial, HST.out HL.out⟩
            case measure => simp [intOf]; omega
          · exfalso; omega
        · have h4 : (4 : Int) ≤ (s.size : Int) := by omega
          rcases hW' with h6 | ⟨h6, h6'⟩
          · go_wp2_with fail
            go_roundw
            case rel => exact ⟨k + 1, by omega, by go_num, trivial, HST.out HL.out⟩
            case measure => simp [intOf]; omega
          · have h7 : (7 : Int) ≤ (s.size : Int) := by omega
            go_wp2_with fail
            go_roundw
            case rel => exact ⟨k + 1, by omega, by go_num, trivial, HST.out HL.out⟩
            case measure => simp [intOf]; omega
    · have hall : ∀ s ∈ ls, LineOk s := by
        have := hok.out
        rwa [List.take_of_length_le (by omega)] at this
      have hg1 : GlobT wr := HG.out.1.ext HX1.out
      have hm1 : Tryz.Glob wr := glob_ext HG.out.2 HX1.out
      have hgl := hg1.lt
      have HS1 : Hid (StrsAt wr ao ls) := HLS.out.ext HX1.out
      have HRN : Hid (ls.length ≤ 80 → ∀ W oo cc, Ext wr W → StrsAt W oo ls → Calls Tryz.prog 5 #[.slice oo ls.length cc] W fun e w' => ∃ po pc, e = .returned (.tuple #[.slice po ls.length pc, .nilIface]) ∧ StrsAt w' po ((List.range ls.length).map (ansN ls)) ∧ Ext W w') := fun h W oo cc hx hE => run_lines oo cc ls W h hE (hg1.ext hx) (glob_ext hm1 hx) hall
      have HPL : Hid (∀ i, i ≤ ls.length → Pln (rowsN ls i)) := rowsN_pln ls
      have HSZ2 : Hid (∀ s ∈ ls, s.size ≤ 1000) := fun s hs => by have := (hall s hs).size; omega
      have hkl : k = ls.length := by omega
      subst hkl
      clear hok hall HG HLS hg1 hm1 hlt hk
      have hln : ls.length + 0 ≤ 100000 := by omega
      have hn0 : ([] : List ByteArray).length + ls.length ≤ 100000 := by simp; omega
      have hn1 : ls.length ≤ 100000 := by omega
      have t1 : True := trivial
      go_upto_region 11 with (first
        | (at_builtin; have _t := t1; refine wpList_app_strs rfl _ _ rfl wr _ [] (by rfl) (Sls.nil (Ext.refl wr)) ao cap ls (by rfl) HS1.out hn0 ?_; intro v2 w2 hL2; rw [List.nil_append] at hL2; clear t1)
        | (at_builtin; refine wpList_app_str rfl _ _ rfl wr _ ls (by rfl) (hL2.alloc _) _ ⟨#[109, 97, 114, 107]⟩ (by rfl) (Blk.new _ _ _) hn1 ?_; intro v3 w3 hL3; obtain ⟨oo, oc, hv3, hcap3, _⟩ := hL3.ge; obtain ⟨oo', oc', hv3', hE3⟩ := hL3.at; rw [hv3] at hv3'; cases hv3'; subst hv3; have hcap4 : (ls.length : Int) ≤ (oc : Int) := (by simp at hcap3; omega)))
      have HE : Hid (StrsAt w3 oo ls) := fun hne => by
        obtain ⟨b, off, e, hc⟩ := hE3 (by simp)
        exact ⟨b, off, e, fun i x hi => hc i x (by rw [List.getElem?_append_left (List.getElem?_eq_some_iff.1 hi).1]; exact hi)⟩
      have HX3 : Hid (Ext wr w3) := hL3.ext
      clear hE3 hcap3 hcap4 hL3 hL2
      by_cases h80 : (80 : Int) < (ls.length : Int)
      · have HRM : Hid (Calls Tryz.prog 5 #[.slice oo ls.length oc] w3 fun e w' => e = .returned (.tuple #[.slice none 0 0, .iface 39 (.int .i64 2)]) ∧ Ext w3 w') := run_many oo oc ls.length w3 (by omega)
        have HSM : Hid (∀ W, Calls Tryz.prog 6 #[.iface 39 (.int .i64 2), .int .i64 2] W fun e w' => e = .returned (.bool true) ∧ W = w') := fun W => (same_err 2 2 W).mono fun _ _ h => ⟨h.1, h.2.symm⟩
        clear HRN HPL HSZ2 HE
        go_wp2_with (first
          | (go_at_call 5; refine HRM.out.mono ?_; rintro e w4 ⟨rfl, hx4⟩)
          | (go_at_call 6; refine (HSM.out _).mono ?_; rintro e w5 ⟨rfl, rfl⟩))
        go_ret
        exact ⟨rfl, (HX1.out.trans HX3.out).trans hx4⟩
      · have HRN2 : Hid (Calls Tryz.prog 5 #[.slice oo ls.length oc] w3 fun e w' => ∃ po pc, e = .returned (.tuple #[.slice po ls.length pc, .nilIface]) ∧ StrsAt w' po ((List.range ls.length).map (ansN ls)) ∧ Ext w3 w') := HRN.out (by omega) w3 oo oc HX3.out HE.out
        clear HRN
        go_upto_region 16 with (go_at_call 5; refine HRN2.out.mono ?_; rintro e w4 ⟨po, pc, rfl, hE4, hx4⟩)
        have HE4 : Hid (StrsAt w4 po ((List.range ls.length).map (ansN ls)) ∧ Ext w3 w4) := ⟨hE4, hx4⟩
        clear HRN2 hE4 hx4
        have hgl4 : 1 < w4.heap.size := by have := HX3.out.size; have := HE4.out.2.size; omega
        have HD0 : Hid (DocO w4 ((w4.alloc (.cells #[.slice none 0 0] 33)).alloc (.cells #[.pointer (some ⟨w4.heap.size, 0, none⟩)] 35)) (w4.heap.size + 1) w4.heap.size (.slice none 0 0) [] (rowsN ls 0)) := DocO.start (doc_new w4 hgl4)
        clear hgl4 hgl
        generalize (w4.alloc (.cells #[.slice none 0 0] 33)).alloc (.cells #[.pointer (some ⟨w4.heap.size, 0, none⟩)] 35) = w5 at *
        generalize w4.heap.size + 1 = xb at *
        generalize w4.heap.size = rb at *
        have HAN : Hid (∀ (i : Nat) s, ls[i]? = some s → ansN ls i = ansE (rowsN ls i) s ∧ rowsN ls (i + 1) = ansR (rowsN ls i) s) := fun i s h => ⟨ansN_is h, rowsN_step h⟩
        have HL4 : Hid (StrsAt w4 ao ls ∧ StrsAt w4 oo ls) := ⟨HS1.out.ext (HX3.out.trans HE4.out.2), HE.out.ext HE4.out.2⟩
        clear HS1 HE
        go_wp2_with fail
        go_loopw [10, 11, 12] (fun v i _ wx => ∃ (k : Nat), k ≤ ls.length ∧ i = .int .i64 k ∧ DocO w4 wx xb rb v ((List.range k).map (ansN ls)) (rowsN ls k)) (fun _ i _ _ => ls.length - (intOf i).toNat)
        case atStart => exact ⟨0, Nat.zero_le _, rfl, HD0.out⟩
        case round =>
          clear HD0
          obtain ⟨k, hk, rfl, hO⟩ := hrel
          by_cases hlt : k < ls.length
          · obtain ⟨b, off, s, rfl, he, hc⟩ := (HL4.out.1.ext hO.sl.ext).get hlt
            have hkl : (k : Int) < (ls.length : Int) := by omega
            obtain ⟨ha, hr⟩ := HAN.out k s he
            have hsay := hO.say (HPL.out k (by omega)) s (HSZ2.out s (List.mem_of_getElem? he))
            rw [← ha, ← hr] at hsay
            have HSY : Hid (Calls Tryz.prog 7 #[.pointer (some ⟨xb, 0, none⟩), .string s] wr fun e w' => e = .returned (.string (ansN ls k)) ∧ DocO w4 w' xb rb u10 ((List.range k).map (ansN ls)) (rowsN ls (k + 1))) := hsay
            clear hsay
            have HST : Hid ((List.range (k + 1)).map (ansN ls) = (List.range k).map (ansN ls) ++ [ansN ls k]) := by rw [Hid, List.range_succ]; simp
            have HLN : Hid (((List.range k).map (ansN ls)).length ≤ 100000) := by rw [Hid]; simp; omega
            clear he hO HAN HPL HSZ2 ha hr HL4 HE4
            generalize (List.range k).map (ansN ls) = done at *
            generalize ansN ls k = T at *
            go_wp2_with (first
              | (go_at_call 7; refine HSY.out.mono ?_; rintro e w6 ⟨rfl, hO6⟩)
              | (at_builtin; refine wpList_app_strA rfl _ _ rfl w4 _ done rfl ?c1 _ T rfl ?c2 ?c3 ?_))
            case c1 => exact hO6.sl.alloc _
            case c2 => exact Blk.new' _ _ _ (by first | rfl | simp)
            case c3 => exact HLN.out
            intro v7 w7 hs7 hg7 hr7
            have HO7 : Hid (DocO w4 w7 xb rb v7 (done ++ [T]) (rowsN ls (k + 1))) := (hO6.ext ((Ext.refl w6).alloc _)).app hs7 hg7 (by simpa using hr7)
            clear hO6 hs7 hg7 hr7 HSY
            go_wp2
            go_roundw
            case rel => exact ⟨k + 1, by omega, by go_num, by rw [HST.out]; exact HO7.out⟩
            case measure => simp [intOf]; omega
          · have hkl : k = ls.length := by omega
            subst hkl
            obtain ⟨vo, vc, hv, hE⟩ := hO.sl.at
            have hll : ((List.range ls.length).map (ansN ls)).length = ls.length := by simp
            have hx := hO.sl.ext
            have HSM : Hid (∀ W, Calls Tryz.prog 6 #[.nilIface, .int .i64 0] W fun e w' => e = .returned (.bool true) ∧ W = w') := fun W => by
              have := same_nil 0 W
              exact this.mono fun _ _ h => ⟨h.1, h.2.symm⟩
            have HT1 : Hid (∀ W, Ext wr W → Calls Tryz.prog 8 #[.slice po ls.length pc, .slice vo ls.length vc] W fun e w' => e = .returned (.bool true) ∧ Ext W w') := fun W hW => by
              have := sameTexts_eq po vo pc vc ((List.range ls.length).map (ansN ls)) W (by rw [hll]; omega) (HE4.out.1.ext (hx.trans hW)) (hE.ext hW)
              rw [hll] at this
              exact this
            have HT2 : Hid (∀ W, Ext w4 W → Calls Tryz.prog 8 #[.slice oo ls.length oc, .slice ao ls.length cap] W fun e w' => e = .returned (.bool true) ∧ Ext W w') := fun W hW => sameTexts_eq oo ao oc cap ls W (by omega) (HL4.out.2.ext hW) (HL4.out.1.ext hW)
            rw [hll] at hv
            subst hv
            have HXX : Hid (Ext w w4) := (HX1.out.trans HX3.out).trans HE4.out.2
            clear hO HAN HPL HSZ2 hE HL4 HE4 hll HX1 HX3
            have t1 : True := trivial
            go_wp2_with (first
              | (go_at_call 6; refine (HSM.out _).mono ?_; rintro e w6 ⟨rfl, rfl⟩)
              | (go_at_call 8; have _t := t1; refine (HT1.out _ (Ext.refl _)).mono ?_; rintro e w7 ⟨rfl, hx7⟩; clear t1)
              | (go_at_call 8; refine (HT2.out _ (hx.trans hx7)).mono ?_; rintro e w8 ⟨rfl, hx8⟩))
            go_ret
            exact ⟨rfl, ((HXX.out.trans hx).trans hx7).trans hx8⟩
end Go.Proofs.YtkibgflbidkalaaGreatDoor
