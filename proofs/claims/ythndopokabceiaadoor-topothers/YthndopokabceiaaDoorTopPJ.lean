/- TopP. -/
import Derived.Test.YthndopokabceiaaDoorValAJ

/- TopOthers. -/
namespace Go.Proofs.YthndopokabceiaaDoor
open Go.RowKit Go.WideShapes

set_option maxRecDepth 20000 in
set_option maxHeartbeats 4000000 in
theorem topOthers_any (ao : Option Addr) (cap : Nat) (acs : List ActE) (bo : Option Addr) (bc : Nat) (l : List Ent) (key : ByteArray) (hks : key.size ≤ 9223372036854775807) (w : World) (hg : GlobT w) (hl : acs.length ≤ 9223372036854775807) (has : ActsAt w ao acs) (hll : l.length ≤ 9223372036854775807) (hes : EntsAt w bo l) :
    Calls Tryd.prog 4 #[.slice ao acs.length cap, .slice bo l.length bc, .string key] w fun e w' => e = .returned (.bool true) ∧ Ext w w' := by
  have HW := worksH w hg
  cases hf : fillB acs with
  | false =>
    have HF := filledN ao cap acs w hl has hf
    clear has hf hg hes
    go_enter Tryd.func4, Tryd.ntmps4
    go_wp2_with (first
      | (go_at_call 12; refine HW.out.mono ?_; rintro e w1 ⟨rfl, hx1⟩)
      | (go_at_call 13; refine (HF.out _ hx1).mono ?_; rintro e w2 ⟨rfl, rfl⟩))
    go_ret
    exact ⟨rfl, hx1⟩
  | true =>
    have HF := filledY ao cap acs w hg hl has hf
    generalize weakN acs = k at *
    generalize fillR acs = R at *
    have HL := lightH w 6 bo bc l (by omega) hll hes
    cases hli : light l 6 with
    | false =>
      rw [hli] at HL
      clear has hf hg hes hli
      go_enter Tryd.func4, Tryd.ntmps4
      go_wp2_with (first
        | (go_at_call 12; refine HW.out.mono ?_; rintro e w1 ⟨rfl, hx1⟩)
        | (go_at_call 13; refine (HF.out _ hx1).mono ?_; rintro e w2 ⟨cb, sb, S, m, rfl, hU2, hx2, hS2⟩)
        | (go_at_call 14; refine (HL.out _ hx2).mono ?_; rintro e w3 ⟨rfl, rfl⟩))
      go_ret
      exact ⟨rfl, hx2⟩
    | true =>
      rw [hli] at HL
      have hl6 := light_len hli
      by_cases h20 : (20 : Int) < (key.size : Int)
      · clear has hf hg hes hli
        go_enter Tryd.func4, Tryd.ntmps4
        go_wp2_with (first
          | (go_at_call 12; refine HW.out.mono ?_; rintro e w1 ⟨rfl, hx1⟩)
          | (go_at_call 13; refine (HF.out _ hx1).mono ?_; rintro e w2 ⟨cb, sb, S, m, rfl, hU2, hx2, hS2⟩)
          | (go_at_call 14; refine (HL.out _ hx2).mono ?_; rintro e w3 ⟨rfl, rfl⟩))
        go_ret
        exact ⟨rfl, hx2⟩
      · have HWR := writeH w 800 k R (by omega) bo bc l hes
        have HES : Hid (EntsAt w bo l) := hes
        have hk20 : key.size ≤ 1000 := by omega
        clear has hf hg hes hli
        go_enter Tryd.func4, Tryd.ntmps4
        go_wp2_with (first
          | (go_at_call 12; refine HW.out.mono ?_; rintro e w1 ⟨rfl, hx1⟩)
          | (go_at_call 13; refine (HF.out _ hx1).mono ?_; rintro e w2 ⟨cb, sb, S, m, rfl, hU2, hx2, hS2⟩)
          | (go_at_call 14; refine (HL.out _ hx2).mono ?_; rintro e w3 ⟨rfl, rfl⟩))
        have HU2 : Hid (Up 800 w2 S sb cb m k R ∧ (∀ b ∈ S, w.heap.size ≤ b) ∧ Ext w w2) := ⟨hU2, hS2, hx2⟩
        clear hU2 hS2 hx1 HW HF HL
        go_loopw [10] (fun i wr => ∃ j : Nat, j ≤ l.length ∧ i = .int .i64 j ∧ (∀ e ∈ l.take j, ¬ e.key = key) ∧ w2 = wr) (fun i _ => l.length - (intOf i).toNat)
        case atStart => exact ⟨0, Nat.zero_le _, rfl, (fun e he => by simp at he), rfl⟩
        case round =>
          obtain ⟨j, hj, rfl, hno, rfl⟩ := hrel
          have HNO : Hid (∀ e ∈ l.take j, ¬ e.key = key) := hno
          clear hno
          by_cases hlt : j < l.length
          · obtain ⟨eb, eo, ek, ev, eg, rfl, he, g1, g2, g3⟩ := (HES.out.ext2 hx2).get hlt
            by_cases hkk : ek = key
            · subst hkk
              clear he HNO HWR
              go_wp2_with fail
              go_ret
              exact ⟨rfl, hx2⟩
            · have hbe : (ek.toList == key.toList) = false := beq_ne hkk
              have HN2 : Hid (∀ e ∈ l.take (j + 1), ¬ e.key = key) := fun e hm => by
                rw [List.take_add_one, he] at hm
                rcases List.mem_append.1 hm with h' | h'
                · exact HNO.out e h'
                · simp at h'; subst h'; exact hkk
              clear he HNO hkk HWR
              go_wp2_with fail
              go_roundw
              case rel => exact ⟨j + 1, by omega, by go_num, HN2.out, trivial⟩
              case measure => simp [intOf]; omega
          · have hno : ∀ e ∈ l, ¬ e.key = key := fun e hm => HNO.out e (by rw [List.take_of_length_le (by omega)]; exact hm)
            obtain ⟨hU, hS, hX⟩ := HU2.out
            have hge := getE_other hU.plain.1 hU.plain.2.1 l key hno
            have HG1 : Hid (Calls Tryd.prog 16 #[.pointer (some ⟨sb, 0, none⟩), .string key] w2 fun e w' => e = .returned (.tuple #[.string (valE (getE R key)), .bool (getE R key).isSome, .nilIface]) ∧ Ext w2 w') := hU.getV key hk20
            have HG2 : Hid (∀ W S' m', Up 809 W S' sb cb m' k (wrR R l) → Calls Tryd.prog 16 #[.pointer (some ⟨sb, 0, none⟩), .string key] W fun e w' => e = .returned (.tuple #[.string (valE (getE R key)), .bool (getE R key).isSome, .nilIface]) ∧ Ext W w') := fun W S' m' h => by
              have := h.getV key hk20
              rw [hge] at this
              exact this
            clear hge hno HNO HES hx2 HU2
            generalize valE (getE R key) = V at *
            generalize (getE R key).isSome = B at *
            go_wp2_with (first
              | (go_at_call 16; refine (HG2.out _ _ _ hU4).mono ?_; rintro e w5 ⟨rfl, hx5⟩)
              | (go_at_call 15; refine (HWR.out _ _ _ _ _ hX3 hS hU3).mono ?_; rintro e w4 ⟨rfl, S4, m4, hU4, hx4, hS4⟩)
              | (go_at_call 16; refine HG1.out.mono ?_; rintro e w3 ⟨rfl, hx3⟩; have hU3 := hU.ext hx3; have hX3 := hX.trans hx3))
            go_ret
            exact ⟨rfl, hx4.trans hx5⟩
end Go.Proofs.YthndopokabceiaaDoor
