
/- The first entry of a text. -/
import Derived.Test.YtpldeejagomfjaaEntM
import Derived.Test.YtpldeejagomfjaaWld
import Derived.Deep.DeepCutAuto
import Derived.Deep.Light
import Derived.Deep.RegionHeld3
import Derived.Deep.DrawnRows
namespace Go.Proofs.Ytpldeejagomfjaa
open Go.RowKit
attribute [local go_sem ↓] Go.wp_at_zero Go.wp_at_succ

theorem bcell {W w1 : World} (hb : Below W.heap.size W w1) : (∀ b o, b < W.heap.size → w1.cell? ⟨b, o, none⟩ = W.cell? ⟨b, o, none⟩) ∧ (∀ b o, b < W.heap.size → w1.frozen? ⟨b, o, none⟩ = W.frozen? ⟨b, o, none⟩) :=
  ⟨fun b o h => hb.cell (p := ⟨b, o, none⟩) h, fun b o h => hb.frozen (p := ⟨b, o, none⟩) h⟩
theorem Blk.put3 {w : World} {b : Nat} {x y z x' y' z' : Value} {t : TypeId} (h : Blk w b #[x, y, z] t) : Blk (((w.setCell ⟨b, 0, none⟩ x').setCell ⟨b, 1, none⟩ y').setCell ⟨b, 2, none⟩ z') b #[x', y', z'] t :=
  ((h.set 0 x').set 1 y').set 2 z'
theorem Try.results81 : Try.f81.results = #[.cell 2 30, .tmp 3, .tmp 4] := by kernel_rfl

theorem check_ok (key val : ByteArray) (gone : Bool) (w : World) (h : faultB key val gone = 0) :
    Calls Try.prog 20 #[.agg #[.string key, .string val, .bool gone]] w fun e w' => e = .returned .nilIface ∧ ∃ c, w' = w.alloc (.cells c 30) := by
  refine (check_any key val gone w).mono ?_
  rintro e w' ⟨rfl, c, rfl⟩
  exact ⟨by rw [h]; rfl, c, rfl⟩
theorem check_bad (key val : ByteArray) (gone : Bool) (w : World) (h : ¬ faultB key val gone = 0) :
    Calls Try.prog 20 #[.agg #[.string key, .string val, .bool gone]] w fun e w' => (∃ n, e = .returned (.iface 123 (.int .i64 n)) ∧ n = faultB key val gone) ∧ ∃ c, w' = w.alloc (.cells c 30) := by
  refine (check_any key val gone w).mono ?_
  rintro e w' ⟨rfl, c, rfl⟩
  exact ⟨⟨_, by unfold errV; rw [if_neg h], rfl⟩, c, rfl⟩

set_option maxHeartbeats 4000000 in
theorem first_in (s : ByteArray) (w : World) (a b c : UInt8) (h3 : 3 ≤ s.size) (hs : s.size ≤ 281474976710656) (h0 : s[0] = a) (h1 : s[1] = b) (h2 : s[2] = c) (ha : a.toNat ≤ 1)
    (he : 3 + b.toNat + c.toNat ≤ s.size) :
    Calls Try.prog 81 #[.string s] w fun e w' =>
      ((faultB (s.extract 3 (3 + b.toNat)) (s.extract (3 + b.toNat) (3 + b.toNat + c.toNat)) ((a.toNat : Int) == 1) = 0 ∧
        e = .returned (.tuple #[.agg #[.string (s.extract 3 (3 + b.toNat)), .string (s.extract (3 + b.toNat) (3 + b.toNat + c.toNat)), .bool ((a.toNat : Int) == 1)], .int .i64 (3 + (b.toNat : Int) + (c.toNat : Int)), .bool true])) ∨
       (¬ faultB (s.extract 3 (3 + b.toNat)) (s.extract (3 + b.toNat) (3 + b.toNat + c.toNat)) ((a.toNat : Int) == 1) = 0 ∧
        e = .returned (.tuple #[.agg #[.string ⟨#[]⟩, .string ⟨#[]⟩, .bool false], .int .i64 0, .bool false]))) ∧ Ext w w' := by
  have ha' : ¬ (1 : Int) < (a.toNat : Int) := by omega
  have hb : b.toNat < 256 := b.toNat_lt
  have hc : c.toNat < 256 := c.toNat_lt
  have sl1 : ∀ W : World, (Instr.slice 9 (.string s) (some (.int .i64 3)) (some (.int .i64 (3 + (b.toNat : Int)))) none).run Try.prog W = .ok (.string (s.extract 3 (3 + b.toNat))) W := fun W => by
    have := run_slice_string (P := Try.prog) (w := W) 9 s .i64 .i64 3 (3 + (b.toNat : Int)) Try.underlying9 (by omega) (by omega) (by omega)
    rw [this, show (3 : Int).toNat = 3 from rfl, show (3 + (b.toNat : Int)).toNat = 3 + b.toNat by omega]
  have sl2 : ∀ W : World, (Instr.slice 9 (.string s) (some (.int .i64 (3 + (b.toNat : Int)))) (some (.int .i64 (3 + (b.toNat : Int) + (c.toNat : Int)))) none).run Try.prog W = .ok (.string (s.extract (3 + b.toNat) (3 + b.toNat + c.toNat))) W := fun W => by
    have := run_slice_string (P := Try.prog) (w := W) 9 s .i64 .i64 (3 + (b.toNat : Int)) (3 + (b.toNat : Int) + (c.toNat : Int)) Try.underlying9 (by omega) (by omega) (by omega)
    rw [this, show (3 + (b.toNat : Int)).toNat = 3 + b.toNat by omega, show (3 + (b.toNat : Int) + (c.toNat : Int)).toNat = 3 + b.toNat + c.toNat by omega]
  have ix0 : ∀ W : World, (Instr.index 9 (.string s) (.int .i64 0)).run Try.prog W = .ok (.int .u8 (a.toNat : Int)) W := fun W => by
    have h0' : (0 : Nat) < s.size := by omega
    simp [go_sem, Try.underlying9, h0', h0]
  generalize hK : s.extract 3 (3 + b.toNat) = K at *
  generalize hV : s.extract (3 + b.toNat) (3 + b.toNat + c.toNat) = V at *
  have HK : Hid (s.extract 3 (3 + b.toNat) = K) := hK
  have HV : Hid (s.extract (3 + b.toNat) (3 + b.toNat + c.toNat) = V) := hV
  have hKs : K.size ≤ 281474976710656 := by rw [← hK]; simp; omega
  have hVs : V.size ≤ 281474976710656 := by rw [← hV]; simp; omega
  clear hK hV
  have hp : 0 < s.size := by omega
  have h3' : ¬ ((s.size : Int) < 3) := by omega
  have he' : ¬ ((s.size : Int) < 3 + (b.toNat : Int) + (c.toNat : Int)) := by omega
  go_enter Try.func81, Try.ntmps81
  go_upto_region 7 with fail
  go_cut [7] (fun s7 wx => ∃ blk, s7 = .pointer (some ⟨blk, 0, none⟩) ∧ Blk wx blk #[.string K, .string V, .bool ((a.toNat : Int) == 1)] 30 ∧ Blk wx w.heap.size #[.string ⟨#[]⟩, .string ⟨#[]⟩, .bool false] 30 ∧ blk ≠ w.heap.size ∧ Ext w wx)
  case first =>
    go_region_held3 (fun _ => True) (trivial) (first | (go_at_call_of 103 (Value.string K); refine (clone_any K _ hKs).mono ?_; rintro e w' ⟨rfl, hbel⟩; have hsz := fun k (h : k < _) => Nat.lt_of_lt_of_le h hbel.size; obtain ⟨hcc, hff⟩ := bcell hbel; have hx : Ext _ _ := ⟨hbel⟩; clear hbel) | (go_at_call_of 103 (Value.string V); refine (clone_any V _ hVs).mono ?_; rintro e w' ⟨rfl, hbel⟩; have hsz := fun k (h : k < _) => Nat.lt_of_lt_of_le h hbel.size; obtain ⟨hcc, hff⟩ := bcell hbel; have hx : Ext _ _ := ⟨hbel⟩; clear hbel))
    all_goals go_wp2_with fail
    all_goals go_meet
    all_goals refine ⟨_, rfl, ?_, ?_, Ne.symm ?_, ?_⟩
    all_goals go_light
    all_goals clear hcc hff hsz sl1 sl2 ix0 HK HV
    all_goals (repeat (first | with_reducible exact Blk.new _ _ _ | with_reducible exact Ext.refl _ | with_reducible refine Blk.drew ?_ | with_reducible refine Ext.drew ?_ | with_reducible refine Blk.put3 (x := .string ⟨#[]⟩) (y := .string ⟨#[]⟩) (z := .bool false) ?_ | with_reducible refine Blk.other ?_ ?_ _ | with_reducible refine Ext.set ?_ ?_ _ | (with_reducible refine Blk.new' _ _ _ ?_; simp; done) | with_reducible refine Blk.alloc ?_ _ | with_reducible refine Ext.alloc ?_ _ | with_reducible refine Blk.ext ‹Ext _ _› ?_ | with_reducible refine Ext.trans ?_ ‹Ext _ _› | (show (_ : Nat) ≠ _; (try dsimp only); omega) | (show (_ : Nat) ≤ _; (try dsimp only); omega) | refine (Blk.ne_new (cs := #[.string ⟨#[]⟩, .string ⟨#[]⟩, .bool false]) (t := 30) ?_) | refine Ext.size (a := w) ?_))
  case rest =>
    obtain ⟨blk, rfl, hB, hR, hne, hx⟩ := hcut
    have c0 := hB.cell 0
    have c1 := hB.cell 1
    have c2 := hB.cell 2
    have r0 := hR.cell 0
    have r1 := hR.cell 1
    have r2 := hR.cell 2
    have f0 := hR.free 0
    have f1 := hR.free 1
    have f2 := hR.free 2
    have hlt := hR.lt
    have hlt2 := hB.lt
    have hsz := hx.size
    simp at c0 c1 c2 r0 r1 r2
    by_cases HF : faultB K V ((a.toNat : Int) == 1) = 0
    · have HH : Hid (faultB K V ((a.toNat : Int) == 1) = 0) := HF
      clear HF
      go_wp2_with (go_at_call 20; refine (check_ok K V _ _ HH.out).mono ?_; rintro e w' ⟨rfl, cc, rfl⟩)
      refine bodyPost_ret (v := .tuple #[.agg #[.string K, .string V, .bool ((a.toNat : Int) == 1)], .int .i64 (3 + (b.toNat : Int) + (c.toNat : Int)), .bool true]) (by simp [results, go_sem, r0, r1, r2, hlt]) rfl ⟨.inl ⟨HH.out, rfl⟩, ?_⟩
      refine Ext.alloc (Ext.set (Ext.set (Ext.set hx ?_ _) ?_ _) ?_ _) _ <;> exact Nat.le_refl _
    · have HH : Hid (¬ faultB K V ((a.toNat : Int) == 1) = 0) := HF
      clear HF
      go_wp2_with (go_at_call 20; refine (check_bad K V _ _ HH.out).mono ?_; rintro e w' ⟨⟨nn, rfl, _⟩, cc, rfl⟩)
      refine bodyPost_ret (v := .tuple #[.agg #[.string ⟨#[]⟩, .string ⟨#[]⟩, .bool false], .int .i64 0, .bool false]) (by simp [results, go_sem, r0, r1, r2, hlt]) rfl ⟨.inr ⟨HH.out, rfl⟩, ?_⟩
      refine Ext.alloc (Ext.set (Ext.set (Ext.set hx ?_ _) ?_ _) ?_ _) _ <;> exact Nat.le_refl _

set_option maxHeartbeats 1000000 in
theorem first_short (s : ByteArray) (w : World) (h : s.size < 3) :
    Calls Try.prog 81 #[.string s] w fun e w' => e = .returned (.tuple #[.agg #[.string ⟨#[]⟩, .string ⟨#[]⟩, .bool false], .int .i64 0, .bool false]) ∧ Ext w w' := by
  go_enter Try.func81, Try.ntmps81
  go_wp2
  refine bodyPost_ret (v := .tuple #[.agg #[.string ⟨#[]⟩, .string ⟨#[]⟩, .bool false], .int .i64 0, .bool false]) (by simp [results, go_sem]) rfl ⟨rfl, ?_⟩
  exact (Ext.refl _).alloc _

set_option maxHeartbeats 1000000 in
theorem first_high (s : ByteArray) (w : World) (a : UInt8) (h : 3 ≤ s.size) (h0 : s[0] = a) (ha : ¬ a.toNat ≤ 1) :
    Calls Try.prog 81 #[.string s] w fun e w' => e = .returned (.tuple #[.agg #[.string ⟨#[]⟩, .string ⟨#[]⟩, .bool false], .int .i64 0, .bool false]) ∧ Ext w w' := by
  have hp : 0 < s.size := by omega
  have ha' : (1 : Int) < (a.toNat : Int) := by omega
  go_enter Try.func81, Try.ntmps81
  go_wp2
  refine bodyPost_ret (v := .tuple #[.agg #[.string ⟨#[]⟩, .string ⟨#[]⟩, .bool false], .int .i64 0, .bool false]) (by simp [results, go_sem]) rfl ⟨rfl, ?_⟩
  exact (Ext.refl _).alloc _

set_option maxHeartbeats 1000000 in
theorem first_far (s : ByteArray) (w : World) (a b c : UInt8) (h : 3 ≤ s.size) (hs : s.size ≤ 281474976710656) (h0 : s[0] = a) (h1 : s[1] = b) (h2 : s[2] = c) (ha : a.toNat ≤ 1) (he : ¬ 3 + b.toNat + c.toNat ≤ s.size) :
    Calls Try.prog 81 #[.string s] w fun e w' => e = .returned (.tuple #[.agg #[.string ⟨#[]⟩, .string ⟨#[]⟩, .bool false], .int .i64 0, .bool false]) ∧ Ext w w' := by
  have hp : 0 < s.size := by omega
  have ha' : ¬ (1 : Int) < (a.toNat : Int) := by omega
  have hb : b.toNat < 256 := b.toNat_lt
  have hc : c.toNat < 256 := c.toNat_lt
  go_enter Try.func81, Try.ntmps81
  go_wp2
  refine bodyPost_ret (v := .tuple #[.agg #[.string ⟨#[]⟩, .string ⟨#[]⟩, .bool false], .int .i64 0, .bool false]) (by simp [results, go_sem]) rfl ⟨rfl, ?_⟩
  exact (Ext.refl _).alloc _

def zeroE : Value := .agg #[.string ⟨#[]⟩, .string ⟨#[]⟩, .bool false]
theorem gone_int (n : Nat) : ((n : Int) == 1) = (n == 1) := by
  rw [Bool.eq_iff_iff]; simp; omega

theorem first_none (s : ByteArray) (w : World) (hs : s.size ≤ 281474976710656) (h : firstS s = none) :
    Calls Try.prog 81 #[.string s] w fun e w' => e = .returned (.tuple #[.agg #[.string ⟨#[]⟩, .string ⟨#[]⟩, .bool false], .int .i64 0, .bool false]) ∧ Ext w w' := by
  by_cases h3 : 3 ≤ s.size
  · have e0 := byteAt_eq s 0 (by omega)
    have e1 := byteAt_eq s 1 (by omega)
    have e2 := byteAt_eq s 2 (by omega)
    by_cases ha : s[0].toNat ≤ 1
    · by_cases he : 3 + s[1].toNat + s[2].toNat ≤ s.size
      · refine (first_in s w s[0] s[1] s[2] h3 hs rfl rfl rfl ha he).mono ?_
        rintro e w' ⟨h1 | h1, hx⟩
        · exfalso
          unfold firstS at h
          rw [e0, e1, e2, ← gone_int, if_pos ⟨h3, ha, he, h1.1⟩] at h
          simp at h
        · exact ⟨h1.2, hx⟩
      · exact first_far s w s[0] s[1] s[2] h3 hs rfl rfl rfl ha he
    · exact first_high s w s[0] h3 rfl ha
  · exact first_short s w (by omega)

theorem first_some (s : ByteArray) (w : World) (hs : s.size ≤ 281474976710656) (e : Ent) (n : Nat) (h : firstS s = some (e, n)) :
    Calls Try.prog 81 #[.string s] w fun r w' => r = .returned (.tuple #[.agg #[.string e.key, .string e.val, .bool e.gone], .int .i64 (n : Int), .bool true]) ∧ Ext w w' := by
  unfold firstS at h
  split at h
  · rename_i hc
    obtain ⟨h3, ha, he, hf⟩ := hc
    have e0 := byteAt_eq s 0 (by omega)
    have e1 := byteAt_eq s 1 (by omega)
    have e2 := byteAt_eq s 2 (by omega)
    rw [e0] at ha
    rw [e1, e2] at he
    rw [e0, e1, e2, ← gone_int] at hf
    rw [e0, e1, e2] at h
    simp only [Option.some.injEq, Prod.mk.injEq] at h
    obtain ⟨rfl, rfl⟩ := h
    refine (first_in s w s[0] s[1] s[2] h3 hs rfl rfl rfl ha he).mono ?_
    rintro r w' ⟨h1 | h1, hx⟩
    · refine ⟨?_, hx⟩
      rw [h1.2, gone_int]
      simp only [Int.natCast_add]
      rfl
    · exact absurd hf h1.1
  · simp at h

end Go.Proofs.Ytpldeejagomfjaa
