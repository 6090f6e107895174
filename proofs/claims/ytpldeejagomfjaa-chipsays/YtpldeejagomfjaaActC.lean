
/- What all pages of a chip have: sheets. -/
import Derived.Test.YtpldeejagomfjaaActB
import Derived.Deep.RegionWith
namespace Go.Proofs.Ytpldeejagomfjaa
open Go.RowKit
attribute [local go_sem ↓] Go.wp_at_zero Go.wp_at_succ

set_option maxHeartbeats 400000 in
theorem number_nil (w : World) : Calls Try.prog 47 #[.nilIface] w fun e w' => e = .returned (.int .i64 0) ∧ w' = w := by
  go_enter Try.func47, Try.ntmps47
  go_wp2
  go_ret
  exact ⟨rfl, rfl⟩
set_option maxHeartbeats 400000 in
theorem number_err (n : Int) (w : World) : Calls Try.prog 47 #[.iface 123 (.int .i64 n)] w fun e w' => e = .returned (.int .i64 n) ∧ w' = w := by
  have hta : ∀ (v : Value) (w : World), (Instr.typeAssert (.iface 123 v) 27 123 true).run Try.prog w = .ok (.tuple #[v, .bool true]) w := fun _ _ => by kernel_rfl
  go_enter Try.func47, Try.ntmps47
  go_wp2
  go_ret
  exact ⟨rfl, rfl⟩
theorem number_any (n : Int) (w : World) : Calls Try.prog 47 #[errV n] w fun e w' => e = .returned (.int .i64 n) ∧ w' = w := by
  unfold errV
  by_cases h : n = 0
  · subst h; rw [if_pos rfl]; exact number_nil w
  · rw [if_neg h]; exact number_err n w

theorem results_cell1 {fn : Func} {p : Tmp} {ty : TypeId} (h : fn.results = #[.cell p ty]) (tmps : Array Value) (P : Program) (w : World) :
    (results fn tmps).run P w = ((asAddr (tmps.getD p undef)).run P w).andThen fun a w₁ => (loadVar ty a).run P w₁ := by
  simp only [results, h]
  simp [Sem.run_bind, Result.andThen]
def sheetS (M : CM) (b p : Nat) : Value := .string (txtL (readR M (b : Int) (p : Int)).1)
def sheetN (M : CM) (b p : Nat) : Value := .int .i64 (readR M (b : Int) (p : Int)).2
/-- The first n sheets lie in cs. -/
structure SheetTo (cs : Array Value) (M : CM) (n : Nat) : Prop where
  size : cs.size = 384
  s : ∀ b p, b < 24 → p < 8 → b * 8 + p < n → cs[b * 16 + p * 2]? = some (sheetS M b p)
  e : ∀ b p, b < 24 → p < 8 → b * 8 + p < n → cs[b * 16 + p * 2 + 1]? = some (sheetN M b p)
  one : ∀ (i : Nat) (v : Value), cs[i]? = some v → v.oneCell' = true
theorem SheetTo.step {cs : Array Value} {M : CM} {b p : Nat} (h : SheetTo cs M (b * 8 + p)) (hb : b < 24) (hp : p < 8) :
    SheetTo ((cs.setIfInBounds (b * 16 + p * 2) (sheetS M b p)).setIfInBounds (b * 16 + p * 2 + 1) (sheetN M b p)) M (b * 8 + (p + 1)) := by
  have hz := h.size
  refine ⟨by simp [hz], fun b' p' hb' hp' hn => ?_, fun b' p' hb' hp' hn => ?_, fun i v hv => ?_⟩
  · by_cases e : b' = b ∧ p' = p
    · obtain ⟨rfl, rfl⟩ := e
      rw [Array.getElem?_setIfInBounds_ne (by omega), Array.getElem?_setIfInBounds_self_of_lt (by omega)]
    · rw [Array.getElem?_setIfInBounds_ne (by omega), Array.getElem?_setIfInBounds_ne (by omega)]
      exact h.s b' p' hb' hp' (by omega)
  · by_cases e : b' = b ∧ p' = p
    · obtain ⟨rfl, rfl⟩ := e
      rw [Array.getElem?_setIfInBounds_self_of_lt (by simp; omega)]
    · rw [Array.getElem?_setIfInBounds_ne (by omega), Array.getElem?_setIfInBounds_ne (by omega)]
      exact h.e b' p' hb' hp' (by omega)
  · rw [Array.getElem?_setIfInBounds] at hv
    split at hv
    · split at hv
      · cases hv; rfl
      · cases hv
    · rw [Array.getElem?_setIfInBounds] at hv
      split at hv
      · split at hv
        · cases hv; rfl
        · cases hv
      · exact h.one i v hv

def zSheets : List Value := (List.replicate 192 [Value.string ⟨#[]⟩, .int .i64 0]).flatten
def Z69 : Array Value := zSheets.toArray
set_option maxRecDepth 100000 in
theorem zero69 (w : World) : (zeroValue 69).run Try.prog w = .ok (.agg Z69) w := by kernel_rfl
theorem Z69_size : Z69.size = 384 := by unfold Z69 zSheets; rw [List.size_toArray, flat_len]; rfl
theorem Z69_one : ∀ (i : Nat) (v : Value), Z69[i]? = some v → v.oneCell' = true := by
  intro i v hv
  have hm : v ∈ zSheets := by unfold Z69 at hv; rw [List.getElem?_toArray] at hv; exact List.mem_of_getElem? hv
  unfold zSheets at hm
  rw [List.mem_flatten] at hm
  obtain ⟨l, hl, hv'⟩ := hm
  rw [List.mem_replicate] at hl
  rw [hl.2] at hv'
  simp only [List.mem_cons, List.not_mem_nil, or_false] at hv'
  rcases hv' with rfl | rfl <;> rfl
theorem sheet0 (M : CM) : SheetTo Z69 M 0 := ⟨Z69_size, fun _ _ _ _ h => absurd h (Nat.not_lt_zero _), fun _ _ _ _ h => absurd h (Nat.not_lt_zero _), Z69_one⟩
theorem Try.size69 : (Try.prog.info? 69).map (·.size) = some 384 := by kernel_rfl
theorem Try.results45 : Try.f45.results = #[.cell 2 69] := by kernel_rfl

set_option maxRecDepth 100000 in
set_option maxHeartbeats 4000000 in
theorem sheets_any (cb : Nat) (M : CM) (w : World) (h : ChipAt w cb M) :
    Calls Try.prog 45 #[.pointer (some ⟨cb, 0, none⟩)] w fun e w' => (∃ cs, e = .returned (.agg cs) ∧ SheetTo cs M 192) ∧ Ext w w' := by
  have z0 := zero69
  have hx0 : Ext w ((w.alloc (.cells Z69 69)).alloc (.cells Z69 69)) := ((Ext.refl w).alloc _).alloc _
  have hR0 : Blk ((w.alloc (.cells Z69 69)).alloc (.cells Z69 69)) w.heap.size Z69 69 := (Blk.new _ _ _).alloc _
  have hO0 : Blk ((w.alloc (.cells Z69 69)).alloc (.cells Z69 69)) (w.heap.size + 1) Z69 69 := Blk.new' _ _ _ (by simp)
  go_enter Try.func45, Try.ntmps45
  go_wp2_with fail
  go_loopw [4] (fun i wx => ∃ (b : Nat) (cs : Array Value), b ≤ 24 ∧ i = .int .i64 b ∧ Blk wx (w.heap.size + 1) cs 69 ∧ SheetTo cs M (b * 8) ∧ Blk wx w.heap.size Z69 69 ∧ Ext w wx) (fun i _ => 24 - (intOf i).toNat)
  case atStart => exact ⟨0, Z69, Nat.zero_le _, rfl, hO0, sheet0 M, hR0, hx0⟩
  case round =>
    clear hx0 hR0 hO0 z0
    obtain ⟨b, cs, hb, rfl, hO, hS, hR, hx⟩ := hrel
    by_cases hlt : b < 24
    · have hlt' : (b : Int) < 24 := by omega
      go_wp2_with fail
      go_loopw [5] (fun i wx => ∃ (p : Nat) (cs : Array Value), p ≤ 8 ∧ i = .int .i64 p ∧ Blk wx (w.heap.size + 1) cs 69 ∧ SheetTo cs M (b * 8 + p) ∧ Blk wx w.heap.size Z69 69 ∧ Ext w wx) (fun i _ => 8 - (intOf i).toNat)
      case atStart => exact ⟨0, cs, Nat.zero_le _, rfl, hO, hS, hR, hx⟩
      case round =>
        clear hO hS hR hx
        obtain ⟨p, cs, hp, rfl, hO, hS, hR, hx⟩ := hrel
        by_cases hlp : p < 8
        · have hlp' : (p : Int) < 8 := by omega
          have hb0 : (0 : Int) ≤ (b : Int) := by omega
          have hp0 : (0 : Int) ≤ (p : Int) := by omega
          have hcx := h.ext hx
          have hz := hS.size
          have q0 := hO.cell (b * 16 + p * 2)
          rw [Array.getElem?_eq_getElem (by omega)] at q0
          have q1 := hO.cell (b * 16 + p * 2 + 1)
          rw [Array.getElem?_eq_getElem (by omega)] at q1
          have f0 := hO.free (b * 16 + p * 2)
          have f1 := hO.free (b * 16 + p * 2 + 1)
          generalize cs[b * 16 + p * 2] = o0 at *
          generalize cs[b * 16 + p * 2 + 1] = o1 at *
          have hS' := hS.step hlt hlp
          unfold sheetS sheetN at hS'
          generalize hrr : readR M (b : Int) (p : Int) = rr at *
          have HR : Hid (readR M (b : Int) (p : Int) = rr) := hrr
          clear hrr
          go_wp2_with (go_at_call 40; refine (read_any cb b p M _ hcx).mono ?_; rw [HR.out]; rintro e w2 ⟨rfl, rfl⟩)
          go_region_with (go_at_call 47; refine (number_any _ _).mono ?_; rintro e w3 ⟨rfl, rfl⟩)
          all_goals go_wp2
          all_goals go_roundw
          case rel => exact ⟨p + 1, _, by omega, by go_num, ((hO.drew).set _ _).set _ _, hS', ((hR.drew).other (by show w.heap.size ≠ w.heap.size + 1; omega) _).other (by show w.heap.size ≠ w.heap.size + 1; omega) _, ((hx.drew).set (by show w.heap.size ≤ w.heap.size + 1; omega) _).set (by show w.heap.size ≤ w.heap.size + 1; omega) _⟩
          case measure => simp [intOf]; omega
        · have hp8 : p = 8 := by omega
          subst hp8
          go_wp2_with fail
          go_roundw
          case rel => exact ⟨b + 1, cs, by omega, by go_num, hO, by rw [Nat.succ_mul]; exact hS, hR, hx⟩
          case measure => simp [intOf]; omega
    · have hb24 : b = 24 := by omega
      subst hb24
      have hz := hS.size
      have hrg : wr.rangeAt (w.heap.size + 1) 0 cs.toList := by
        intro j v hj
        rw [Nat.zero_add, hO.cell]; simpa using hj
      have HI : Hid ((Try.prog.info? 69).map (·.size) = some cs.toList.length) := by unfold Hid; rw [Array.length_toList, hz]; exact Try.size69
      have hone : ∀ v ∈ cs.toList, v.oneCell' = true := by
        intro v hv
        obtain ⟨i, hi⟩ := List.mem_iff_getElem?.1 hv
        exact hS.one i v (by simpa using hi)
      have hsc := store_run w.heap.size 0 cs.toList wr (hR.there (by rw [Array.length_toList, hz, Z69_size]; omega)) hone
      have hRW := Blk.setCells cs.toList hR 0
      rw [putAt_all _ _ (by rw [Array.length_toList, hz, Z69_size])] at hRW
      have hxW := Ext.setCells (g := w.heap.size) (Nat.le_refl _) cs.toList hx 0
      have hrun : (loadVar 69 ⟨w.heap.size, 0, none⟩).run Try.prog (wr.setCells w.heap.size 0 cs.toList) = .ok (.agg cs) (wr.setCells w.heap.size 0 cs.toList) := by
        have := run_loadVar_mid (P := Try.prog) (wr.setCells w.heap.size 0 cs.toList) w.heap.size 0 69 cs.toList _ (by
          intro j v hj
          rw [Nat.zero_add, hRW.cell]; simpa using hj) Try.underlying69 rfl HI.out
        simpa using this
      have HRUN : Hid ((loadVar 69 ⟨w.heap.size, 0, none⟩).run Try.prog (wr.setCells w.heap.size 0 cs.toList) = .ok (.agg cs) (wr.setCells w.heap.size 0 cs.toList)) := hrun
      clear hRW hone hrun hO hR
      go_wp2_with (refine wpList_load_mid rfl 69 (.tmp 3) rfl (w.heap.size + 1) 0 (by rfl) cs.toList _ hrg Try.underlying69 rfl HI.out ?_)
      refine bodyPost_ret (v := .agg cs) ?_ rfl ⟨⟨cs, rfl, hS⟩, hxW⟩
      rw [results_cell1 Try.results45]
      show ((asAddr (.pointer (some ⟨w.heap.size, 0, none⟩))).run Try.prog _).andThen _ = _
      simp only [asAddr, Sem.run_pure, Result.andThen_ok]
      exact HRUN.out

end Go.Proofs.Ytpldeejagomfjaa
