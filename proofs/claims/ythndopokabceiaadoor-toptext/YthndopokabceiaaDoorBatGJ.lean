/- BatG. -/
import Derived.Test.YthndopokabceiaaDoorBatFJ
import Derived.Deep.Cut

/- Changes as a text: the document's changes of a text. -/
namespace Go.Proofs.YthndopokabceiaaDoor
open Go.RowKit Go.WideShapes

theorem wordsL_le (s : ByteArray) : (wordsL s).length ≤ s.size + 1 := by
  have := splitL_len s.data.toList
  rw [Lib.size_eq]
  simpa [wordsL] using this
theorem splitL_sub : ∀ (s : List UInt8) (x : List UInt8), x ∈ splitL s → x.length ≤ s.length
  | [], x, h => by simp [splitL] at h; subst h; exact Nat.le_refl _
  | c :: r, x, h => by
    unfold splitL at h
    have ih := splitL_sub r
    split at h
    · rcases List.mem_cons.1 h with rfl | h
      · simp
      · have := ih x h; simp; omega
    · split at h
      · simp at h; subst h; simp
      · rename_i y ys hy
        rw [hy] at ih
        rcases List.mem_cons.1 h with rfl | h
        · have := ih y (by simp); simp; omega
        · have := ih x (by simp [h]); simp; omega
theorem wordsL_size (s x : ByteArray) (h : x ∈ wordsL s) : x.size ≤ s.size := by
  obtain ⟨l, hl, rfl⟩ := List.mem_map.1 h
  have := splitL_sub _ l hl
  rw [Lib.size_eq, Lib.size_eq]
  simpa using this
theorem Lst.set {W0 w : World} {v : Value} {es : List Ent} (h : Lst W0 w v es) {eb : Nat} (hne : ∀ g, v.ownBlock = some g → g < eb) (hb : W0.heap.size ≤ eb) (i : Nat) (u : Value) : Lst W0 (w.setCell ⟨eb, i, none⟩ u) v es := by
  refine ⟨⟨h.own.1, ?_⟩, h.ext.set (p := ⟨eb, i, none⟩) hb u⟩
  rcases h.own.2 with hn | ⟨g, cap, cur, rfl, hb, hgg, rest⟩
  · exact .inl hn
  · refine .inr ⟨g, cap, cur, rfl, hb, ?_, rest⟩
    have := hne g rfl
    rw [Below.heap_setCell _ _ _ _ (show g ≠ (⟨eb, i, none⟩ : Addr).block by show g ≠ eb; omega)]
    exact hgg
/-- What the document's BatchOf leaves. -/
structure RfE (w w' : World) (e : Ending) (r : Option (List Ent)) : Prop where
  ex : ∃ v, e = .returned (.tuple #[v, .int .i64 (match r with | none => 4 | some _ => 0)]) ∧ Lst w w' v (r.getD [])
theorem mem_take_snoc {x : ByteArray} {j : Nat} (hj : j < x.size) (hc : ¬ x[j] = 61) (h : (61 : UInt8) ∉ x.data.toList.take j) : (61 : UInt8) ∉ x.data.toList.take (j + 1) := by
  rw [take_byteP x j hj]
  intro hm
  rcases List.mem_append.1 hm with hm | hm
  · exact h hm
  · simp at hm; exact hc hm.symm
theorem textS_pos : ∀ es : List Ent, 0 ≤ textS es
  | [] => Int.le_refl _
  | e :: es => by
    unfold textS
    split
    · unfold checkC
      split
      · rcases faultB_cases e.key e.val e.gone with h | h | h <;> omega
      · split <;> decide
    · exact textS_pos es
theorem textT_pos (es : List Ent) : 0 ≤ (textT es).2 := by
  unfold textT
  split
  · decide
  · split
    · exact textS_pos es
    · exact Int.le_refl _
set_option maxRecDepth 20000 in
set_option maxHeartbeats 8000000 in
theorem rbatch_any (s : ByteArray) (w : World) (hs : s.size ≤ 900) :
    Calls Tryd.prog 26 #[.string s] w fun e w' => RfE w w' e (parseE s) := by
  have HSP : Hid (Calls Tryd.prog 61 #[.string s] w fun e w' => ∃ v, e = .returned v ∧ Sls w w' v (wordsL s)) := rsplit_any s w (by omega)
  have hwl : (wordsL s).length ≤ 901 := by have := wordsL_le s; omega
  have HSZ : Hid (∀ x ∈ wordsL s, x.size ≤ 900) := fun x hx => by have := wordsL_size s x hx; omega
  have HP1 : Hid ((textT (chgsE s)).2 = 0 → parseE s = some (chgsE s)) := fun h => if_pos h
  have HP2 : Hid (¬ (textT (chgsE s)).2 = 0 → parseE s = none) := fun h => if_neg h
  unfold chgsE at HP1 HP2
  generalize parseE s = res at *
  generalize wordsL s = ws at *
  go_enter Tryd.func26, Tryd.ntmps26
  go_wp2_with (go_at_call 61; refine HSP.out.mono ?_; rintro e w1 ⟨v, rfl, hS1⟩; obtain ⟨wo, wc, rfl, hSA⟩ := hS1.at; have HX1 : Ext w w1 := hS1.ext)
  clear HSP hS1
  have HSA : Hid (StrsAt w1 wo ws) := hSA
  clear hSA
  go_loopw [5, 6] (fun v i wr => ∃ (k : Nat), k ≤ ws.length ∧ i = .int .i64 k ∧ Lst w1 wr v ((ws.take k).map changeE)) (fun _ i _ => ws.length - (intOf i).toNat)
  case atStart => exact ⟨0, Nat.zero_le _, rfl, Lst.nil (Ext.refl _)⟩
  case round =>
    obtain ⟨k, hk, rfl, hL⟩ := hrel
    by_cases hlt : k < ws.length
    · obtain ⟨b, off, x, rfl, hx, hcx⟩ := (HSA.out.ext hL.ext).get hlt
      have hxs := HSZ.out x (List.mem_of_getElem? hx)
      have HST : Hid ((ws.take (k + 1)).map changeE = (ws.take k).map changeE ++ [changeE x]) := by
        rw [Hid, List.take_add_one, hx]; simp
      have HLN : Hid (((ws.take k).map changeE).length ≤ 100000) := by rw [Hid]; simp; omega
      have hbl : b < wr.heap.size := by
        rcases Nat.lt_or_ge b wr.heap.size with h' | h'
        · exact h'
        · simp [World.cell?, Array.getElem?_eq_none h'] at hcx
      clear hx
      generalize (ws.take k).map changeE = done at *
      go_upto_region 7 with fail
      have hEB : Blk (wr.alloc (.cells #[.string x, .string ⟨#[]⟩, .bool true] 34)) wr.heap.size #[.string x, .string ⟨#[]⟩, .bool true] 34 := Blk.new _ _ _
      have hL2 := hL.alloc (.cells #[.string x, .string ⟨#[]⟩, .bool true] 34)
      have hcx2 : (wr.alloc (.cells #[.string x, .string ⟨#[]⟩, .bool true] 34)).cell? ⟨b, off + k, none⟩ = some (.string x) := ((Ext.refl wr).alloc _).cell hcx
      have heb : w1.heap.size ≤ wr.heap.size := hL.ext.size
      have HNE : Hid (∀ g, Value.ownBlock _ = some g → g < wr.heap.size) := fun g hg => (hL.own.lt g hg).2
      clear hL hcx
      generalize wr.alloc (.cells #[.string x, .string ⟨#[]⟩, .bool true] 34) = w2 at *
      generalize wr.heap.size = eb at *
      have hebl := hEB.lt
      have HEB : Hid (Blk w2 eb #[.string x, .string ⟨#[]⟩, .bool true] 34) := hEB
      have c0 : w2.cell? ⟨eb, 0, none⟩ = some (.string x) := hEB.cell 0
      have c1 : w2.cell? ⟨eb, 1, none⟩ = some (.string ⟨#[]⟩) := hEB.cell 1
      have c2 : w2.cell? ⟨eb, 2, none⟩ = some (.bool true) := hEB.cell 2
      have f0 := hEB.free 0
      have f1 := hEB.free 1
      have f2 := hEB.free 2
      clear hEB
      go_wp2_with fail
      go_loop [8] (fun i => ∃ j : Nat, j ≤ x.size ∧ i = .int .i64 j ∧ Hid ((61 : UInt8) ∉ x.data.toList.take j)) (fun i => x.size - (intOf i).toNat)
      case atStart => exact ⟨0, Nat.zero_le _, rfl, by rw [Hid]; simp⟩
      case round =>
        obtain ⟨j, hj, rfl, hno⟩ := hrel
        by_cases hjt : j < x.size
        · by_cases hc : x[j] = 61
          · have HCH : Hid (changeE x = ⟨x.extract 0 j, x.extract (j + 1) x.size, false⟩) := chg_cut hjt hc hno.out
            have hc' : ((x[j].toNat : Int) == 61) = true := by rw [hc]; rfl
            clear hc hno
            go_upto_region 11 with fail
            go_region
            have E2 := (((HEB.out.set 0 (.string (x.extract 0 j))).set 1 (.string (x.extract (j + 1) x.size))).set 2 (.bool false)).drew
            have hL3 := (((hL2.set HNE.out heb 0 (.string (x.extract 0 j))).set HNE.out heb 1 (.string (x.extract (j + 1) x.size))).set HNE.out heb 2 (.bool false)).drew
            clear c0 c1 c2 f0 f1 f2 hcx2 HEB hL2
            generalize (((w2.setCell ⟨eb, 0, none⟩ (.string (x.extract 0 j))).setCell ⟨eb, 1, none⟩ (.string (x.extract (j + 1) x.size))).setCell ⟨eb, 2, none⟩ (.bool false)).drew = w3 at *
            have d0 : w3.cell? ⟨eb, 0, none⟩ = some (.string (x.extract 0 j)) := E2.cell 0
            have d1 : w3.cell? ⟨eb, 1, none⟩ = some (.string (x.extract (j + 1) x.size)) := E2.cell 1
            have d2 : w3.cell? ⟨eb, 2, none⟩ = some (.bool false) := E2.cell 2
            clear E2
            generalize x.extract 0 j = kk at *
            generalize x.extract (j + 1) x.size = vv at *
            go_wp2_with (at_builtin; refine wpList_app_ent rfl _ _ rfl w1 _ done rfl ?c1 _ kk vv false rfl ?c2 ?c3 ?_)
            case c1 => exact hL3.alloc _
            case c2 => exact Blk.new' _ _ _ (by first | rfl | simp)
            case c3 => exact HLN.out
            intro v4 w4 hL4
            rw [← HCH.out] at hL4
            go_wp2
            go_roundw
            case rel => exact ⟨k + 1, by omega, by go_num, by rw [HST.out]; exact hL4⟩
            case measure => simp [intOf]; omega
          · have HNO : Hid ((61 : UInt8) ∉ x.data.toList.take (j + 1)) := mem_take_snoc hjt hc hno.out
            have hc' : ((x[j].toNat : Int) == 61) = false := by
              rw [beq_eq_false_iff_ne]
              intro e
              exact hc (UInt8.toNat_inj.1 (by show x[j].toNat = 61; omega))
            clear hc hno
            go_wp2_with fail
            go_round
            case rel => exact ⟨j + 1, by omega, by go_num, HNO⟩
            case measure => simp [intOf]; omega
        · have HCH : Hid (changeE x = ⟨x, ⟨#[]⟩, true⟩) := chg_none (by have := hno.out; rwa [List.take_of_length_le (by rw [← Lib.size_eq]; omega)] at this)
          clear hno
          go_wp2_with (at_builtin; refine wpList_app_ent rfl _ _ rfl w1 _ done rfl ?c1 _ x ⟨#[]⟩ true rfl ?c2 ?c3 ?_)
          case c1 => exact hL2.alloc _
          case c2 => exact Blk.new' _ _ _ (by first | rfl | simp)
          case c3 => exact HLN.out
          intro v3 w3 hL3
          rw [← HCH.out] at hL3
          go_wp2
          go_roundw
          case rel => exact ⟨k + 1, by omega, by go_num, by rw [HST.out]; exact hL3⟩
          case measure => simp [intOf]; omega
    · rw [List.take_of_length_le (by omega)] at hL
      obtain ⟨ao, cap, rfl, hE⟩ := hL.at
      have HTX : Hid (Calls Tryd.prog 24 #[.slice ao (ws.map changeE).length cap] wr fun e w' => e = .returned (.tuple #[.string (textT (ws.map changeE)).1, .int .i64 (textT (ws.map changeE)).2]) ∧ Ext wr w') := rtext_any ao cap (ws.map changeE) wr (by simp; omega) hE (fun e he => by
        obtain ⟨x, hx, rfl⟩ := List.mem_map.1 he
        have h1 := HSZ.out x hx
        have h2 := changeE_le x
        omega)
      have HPOS : Hid (0 ≤ (textT (ws.map changeE)).2) := textT_pos _
      have HLX : Hid (∀ W, Ext wr W → Lst w W (.slice ao (ws.map changeE).length cap) (ws.map changeE)) := fun W hxx => (hL.upon hxx).back HX1
      clear hE hL HSA HSZ
      generalize ws.map changeE = done at *
      generalize textT done = tt at *
      obtain ⟨tx, f⟩ := tt
      by_cases hf : f = 0
      · subst hf
        have hr := HP1.out rfl
        subst hr
        go_wp2_with (go_at_call 24; refine HTX.out.mono ?_; rintro e w2 ⟨rfl, hx2⟩)
        go_ret2
        exact ⟨_, rfl, HLX.out _ hx2⟩
      · have hr := HP2.out hf
        subst hr
        have hfp : 0 < f := by have := HPOS.out; dsimp only at this; omega
        go_wp2_with (go_at_call 24; refine HTX.out.mono ?_; rintro e w2 ⟨rfl, hx2⟩)
        go_ret2
        exact ⟨_, rfl, Lst.nil (HLX.out _ hx2).ext⟩
end Go.Proofs.YthndopokabceiaaDoor
