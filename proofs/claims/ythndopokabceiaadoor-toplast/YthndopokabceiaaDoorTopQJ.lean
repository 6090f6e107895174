/- TopQ. -/
import Derived.Test.YthndopokabceiaaDoorValAJ

/- TopLast. -/
namespace Go.Proofs.YthndopokabceiaaDoor
open Go.RowKit Go.WideShapes

theorem lastK_snoc (l : List Ent) (e : Ent) (key : ByteArray) : lastK (l ++ [e]) key = if e.key = key then some e else lastK l key := by
  unfold lastK
  rw [List.reverse_append]
  simp only [List.reverse_cons, List.reverse_nil, List.nil_append, List.singleton_append, List.find?_cons]
  by_cases h : e.key = key
  · simp [h]
  · simp [h]
theorem lastK_take {l : List Ent} {k : Nat} {e : Ent} (he : l[k]? = some e) (key : ByteArray) : lastK (l.take (k + 1)) key = if e.key = key then some e else lastK (l.take k) key := by
  rw [List.take_add_one, he]
  exact lastK_snoc _ _ _
theorem lastK_mem {l : List Ent} {key : ByteArray} {e : Ent} (h : lastK l key = some e) : e ∈ l ∧ e.key = key := by
  unfold lastK at h
  have h1 := List.mem_of_find?_eq_some h
  have h2 := List.find?_some h
  exact ⟨by simpa using h1, by simpa using h2⟩
/-- What a key has behind a write is what was written last. -/
theorem last_get {R l : List Ent} (hr : Ris R) (hw : writeF R l = 0) {key : ByteArray} {e : Ent} (h : lastK l key = some e) : valE (getE (wrR R l) key) = e.val ∧ (getE (wrR R l) key).isSome = !e.gone := by
  rw [getE_wr hr l key hw, h]
  have hf := (writeF_ok hw).2.2.2.1 e (lastK_mem h).1
  show valE (liveO (some e)) = e.val ∧ (liveO (some e)).isSome = !e.gone
  cases hg : e.gone with
  | false => simp [liveO, hg, valE]
  | true =>
    have hv : e.val = ⟨#[]⟩ := by
      unfold faultE faultB at hf
      by_cases hv : e.val.toList = []
      · have e0 : (⟨#[]⟩ : ByteArray).toList = [] := by kernel_rfl
        exact toList_inj (by rw [hv, e0])
      · rw [if_pos (.inr ⟨hg, hv⟩)] at hf
        exact absurd hf (by decide)
    simp [liveO, hg, valE, hv]
set_option maxRecDepth 20000 in
set_option maxHeartbeats 4000000 in
theorem topLast_any (ao : Option Addr) (cap : Nat) (acs : List ActE) (bo : Option Addr) (bc : Nat) (l : List Ent) (w : World) (hg : GlobT w) (hl : acs.length ≤ 9223372036854775807) (has : ActsAt w ao acs) (hll : l.length ≤ 9223372036854775807) (hes : EntsAt w bo l) :
    Calls Tryd.prog 3 #[.slice ao acs.length cap, .slice bo l.length bc] w fun e w' => e = .returned (.bool true) ∧ Ext w w' := by
  have HW := worksH w hg
  cases hf : fillB acs with
  | false =>
    have HF := filledN ao cap acs w hl has hf
    clear has hf hg hes
    go_enter Tryd.func3, Tryd.ntmps3
    go_wp2_with (first
      | (go_at_call 12; refine HW.out.mono ?_; rintro e w1 ⟨rfl, hx1⟩)
      | (go_at_call 13; refine (HF.out _ hx1).mono ?_; rintro e w2 ⟨rfl, rfl⟩))
    go_ret
    exact ⟨rfl, hx1⟩
  | true =>
    have HF := filledY ao cap acs w hg hl has hf
    generalize weakN acs = k at *
    generalize fillR acs = R at *
    have HL := lightH w 6 bo bc l (by omega) hll hes
    cases hli : light l 6 with
    | false =>
      rw [hli] at HL
      clear has hf hg hes hli
      go_enter Tryd.func3, Tryd.ntmps3
      go_wp2_with (first
        | (go_at_call 12; refine HW.out.mono ?_; rintro e w1 ⟨rfl, hx1⟩)
        | (go_at_call 13; refine (HF.out _ hx1).mono ?_; rintro e w2 ⟨cb, sb, S, m, rfl, hU2, hx2, hS2⟩)
        | (go_at_call 14; refine (HL.out _ hx2).mono ?_; rintro e w3 ⟨rfl, rfl⟩))
      go_ret
      exact ⟨rfl, hx2⟩
    | true =>
      rw [hli] at HL
      have hl6 := light_len hli
      have HWR := writeH w 800 k R (by omega) bo bc l hes
      have HES : Hid (EntsAt w bo l) := hes
      have HLK : Hid (∀ e ∈ l, e.key.size ≤ 20) := light_key hli
      clear has hf hg hes hli
      by_cases hw0 : writeF R l = 0
      case neg =>
        have hev : errV (writeF R l) = .iface 82 (.int .i64 (writeF R l)) := by unfold errV; rw [if_neg hw0]
        rw [hev] at HWR
        clear hw0 hev
        go_enter Tryd.func3, Tryd.ntmps3
        go_wp2_with (first
          | (go_at_call 12; refine HW.out.mono ?_; rintro e w1 ⟨rfl, hx1⟩)
          | (go_at_call 13; refine (HF.out _ hx1).mono ?_; rintro e w2 ⟨cb, sb, S, m, rfl, hU2, hx2, hS2⟩)
          | (go_at_call 14; refine (HL.out _ hx2).mono ?_; rintro e w3 ⟨rfl, rfl⟩)
          | (go_at_call 15; refine (HWR.out _ _ _ _ _ hx2 hS2 hU2).mono ?_; rintro e w4 ⟨rfl, S4, m4, hU4, hx4, hS4⟩))
        go_ret
        exact ⟨rfl, hx4⟩
      rw [hw0] at HWR
      have HWR' : Hid (∀ W S sb cb m, Ext w W → (∀ b ∈ S, w.heap.size ≤ b) → Up 800 W S sb cb m k R → Calls Tryd.prog 15 #[.pointer (some ⟨sb, 0, none⟩), .slice bo l.length bc] W fun e w' => e = .returned .nilIface ∧ ∃ S' m', Up (800 + 9) w' S' sb cb m' k (wrR R l) ∧ Ext w w' ∧ ∀ b ∈ S', w.heap.size ≤ b) := HWR
      have HLG : Hid (∀ W S sb cb m, Up 800 W S sb cb m k R → ∀ key e, lastK l key = some e → valE (getE (wrR R l) key) = e.val ∧ (getE (wrR R l) key).isSome = !e.gone) := fun W S sb cb m hU key e h => last_get hU.plain.1 hw0 h
      clear HWR hw0
      go_enter Tryd.func3, Tryd.ntmps3
      go_wp2_with (first
        | (go_at_call 12; refine HW.out.mono ?_; rintro e w1 ⟨rfl, hx1⟩)
        | (go_at_call 13; refine (HF.out _ hx1).mono ?_; rintro e w2 ⟨cb, sb, S, m, rfl, hU2, hx2, hS2⟩)
        | (go_at_call 14; refine (HL.out _ hx2).mono ?_; rintro e w3 ⟨rfl, rfl⟩)
        | (go_at_call 15; refine (HWR'.out _ _ _ _ _ hx2 hS2 hU2).mono ?_; rintro e w4 ⟨rfl, S4, m4, hU4, hx4, hS4⟩))
      have HGT : Hid (∀ W key e, Ext w4 W → key.size ≤ 1000 → lastK l key = some e → Calls Tryd.prog 16 #[.pointer (some ⟨sb, 0, none⟩), .string key] W fun r w' => r = .returned (.tuple #[.string e.val, .bool (!e.gone), .nilIface]) ∧ Ext W w') := fun W key e hx hk he => by
        have := (hU4.ext hx).getV key hk
        rw [(HLG.out _ _ _ _ _ hU2 key e he).1, (HLG.out _ _ _ _ _ hU2 key e he).2] at this
        exact this
      clear hU2 hU4 hS2 hS4 HF HW HL HWR' HLG hx2 hx1
      go_loopw [8] (fun i wr => ∃ j : Nat, j ≤ l.length ∧ i = .int .i64 j ∧ Ext w4 wr) (fun i _ => l.length - (intOf i).toNat)
      case atStart => exact ⟨0, Nat.zero_le _, rfl, Ext.refl _⟩
      case round =>
        obtain ⟨j, hj, rfl, hxr⟩ := hrel
        by_cases hlt : j < l.length
        · obtain ⟨eb, eo, ek, ev, eg, rfl, he, g1, g2, g3⟩ := (HES.out.ext2 (hx4.trans hxr)).get hlt
          have HK : Hid (lastK (l.take (j + 1)) ek = some ⟨ek, ev, eg⟩ ∧ ek.size ≤ 1000) := ⟨by rw [lastK_take he]; simp, by have := HLK.out _ (List.mem_of_getElem? he); dsimp only at this; omega⟩
          clear he
          have HB0 : Hid (Blk (wr.alloc (.cells #[.string ek, .string ev, .bool eg] 34)) wr.heap.size #[.string ek, .string ev, .bool eg] 34 ∧ Ext w4 (wr.alloc (.cells #[.string ek, .string ev, .bool eg] 34)) ∧ w4.heap.size ≤ wr.heap.size) := ⟨Blk.new _ _ _, hxr.alloc _, hxr.size⟩
          have HLL : Hid (∀ W (t : Nat), Ext w4 W → t < l.length → ∃ fk fv fg, l[t]? = some ⟨fk, fv, fg⟩ ∧ W.cell? ⟨eb, eo + t * 3, none⟩ = some (.string fk) ∧ W.cell? ⟨eb, eo + t * 3 + 1, none⟩ = some (.string fv) ∧ W.cell? ⟨eb, eo + t * 3 + 2, none⟩ = some (.bool fg)) := fun W t hx ht => by
            obtain ⟨b', o', fk, fv, fg, e1, h1, h2⟩ := (HES.out.ext2 (hx4.trans hx)).get ht
            cases e1
            exact ⟨fk, fv, fg, h1, h2⟩
          go_wp2_with fail
          clear g1 g2 g3 HES HLK
          have hw4 : w4.heap.size ≤ wr.heap.size := HB0.out.2.2
          generalize wr.heap.size = lb at *
          generalize wr.alloc (.cells #[.string ek, .string ev, .bool eg] 34) = w5 at *
          clear hxr
          go_loopw [10] (fun i wx => ∃ (t : Nat) (xv : ByteArray) (xg : Bool), t ≤ l.length ∧ i = .int .i64 t ∧ Blk wx lb #[.string ek, .string xv, .bool xg] 34 ∧ lastK (l.take t) ek = some ⟨ek, xv, xg⟩ ∧ Ext w4 wx) (fun i _ => l.length - (intOf i).toNat)
          case atStart => exact ⟨j + 1, ev, eg, by omega, by go_num, HB0.out.1, HK.out.1, HB0.out.2.1⟩
          case round =>
            obtain ⟨t, xv, xg, ht, rfl, hB, hK, hX⟩ := hrel
            have HKT : Hid (lastK (l.take t) ek = some ⟨ek, xv, xg⟩) := hK
            have b0 : wr.cell? ⟨lb, 0, none⟩ = some (.string ek) := hB.cell 0
            have b1 : wr.cell? ⟨lb, 1, none⟩ = some (.string xv) := hB.cell 1
            have b2 : wr.cell? ⟨lb, 2, none⟩ = some (.bool xg) := hB.cell 2
            clear hK HB0
            by_cases hlt2 : t < l.length
            · obtain ⟨fk, fv, fg, hl2, f1, f2, f3⟩ := HLL.out wr t hX hlt2
              have HT : Hid (∀ key, lastK (l.take (t + 1)) key = if fk = key then some ⟨fk, fv, fg⟩ else lastK (l.take t) key) := fun key => lastK_take hl2 key
              have HBB : Hid (Blk wr lb #[.string ek, .string xv, .bool xg] 34) := hB
              have z0 := hB.free 0
              have z1 := hB.free 1
              have z2 := hB.free 2
              clear hl2 hB HLL HGT
              by_cases hk2 : fk = ek
              · have hbe : (fk.toList == ek.toList) = true := by rw [hk2]; simp
                go_upto_region 16 with fail
                go_quiet (fail)
                go_wp2_with fail
                go_roundw
                case rel =>
                  refine ⟨t + 1, fv, fg, by omega, by go_num, ?_, ?_, ?_⟩
                  · rw [show (#[.string ek, .string fv, .bool fg] : Array Value) = (((#[Value.string ek, .string xv, .bool xg]).setIfInBounds 0 (.string ek)).setIfInBounds 1 (.string fv)).setIfInBounds 2 (.bool fg) from rfl]
                    exact (((HBB.out.drewN _).set 0 _).set 1 _).set 2 _
                  · rw [HT.out ek, if_pos hk2, hk2]
                  · exact (((hX.drewN _).set (p := ⟨lb, 0, none⟩) hw4 _).set (p := ⟨lb, 1, none⟩) hw4 _).set (p := ⟨lb, 2, none⟩) hw4 _
                case measure => simp [intOf]; omega
              · have hbe : (fk.toList == ek.toList) = false := beq_ne hk2
                have HN : Hid (¬ fk = ek) := hk2
                clear hk2
                go_upto_region 16 with fail
                go_quiet (fail)
                go_wp2_with fail
                go_roundw
                case rel => exact ⟨t + 1, xv, xg, by omega, by go_num, HBB.out.drewN _, by rw [HT.out ek, if_neg HN.out]; exact HKT.out, hX.drewN _⟩
                case measure => simp [intOf]; omega
            · have hK2 : lastK l ek = some ⟨ek, xv, xg⟩ := by
                have := HKT.out
                rw [List.take_of_length_le (by omega)] at this
                exact this
              have HC : Hid (Calls Tryd.prog 16 #[.pointer (some ⟨sb, 0, none⟩), .string ek] wr fun r w' => r = .returned (.tuple #[.string xv, .bool (!xg), .nilIface]) ∧ Ext wr w') := HGT.out wr ek ⟨ek, xv, xg⟩ hX HK.out.2 hK2
              have HBB : Hid (Blk wr lb #[.string ek, .string xv, .bool xg] 34) := hB
              clear hK2 HKT HGT HLL hB
              cases xg with
              | true =>
                go_wp2_with (go_at_call 16; refine HC.out.mono ?_; rintro r w6 ⟨rfl, hx6⟩; have d1 : w6.cell? ⟨lb, 1, none⟩ = some (.string xv) := (HBB.out.ext hx6).cell 1; have d2 : w6.cell? ⟨lb, 2, none⟩ = some (.bool true) := (HBB.out.ext hx6).cell 2)
                go_roundw
                case rel => exact ⟨j + 1, by omega, by go_num, hX.trans hx6⟩
                case measure => simp [intOf]; omega
              | false =>
                go_wp2_with (go_at_call 16; refine HC.out.mono ?_; rintro r w6 ⟨rfl, hx6⟩; have d1 : w6.cell? ⟨lb, 1, none⟩ = some (.string xv) := (HBB.out.ext hx6).cell 1; have d2 : w6.cell? ⟨lb, 2, none⟩ = some (.bool false) := (HBB.out.ext hx6).cell 2)
                go_roundw
                case rel => exact ⟨j + 1, by omega, by go_num, hX.trans hx6⟩
                case measure => simp [intOf]; omega
        · clear HES HLK HGT
          go_wp2_with fail
          go_ret
          exact ⟨rfl, hx4.trans hxr⟩
end Go.Proofs.YthndopokabceiaaDoor
