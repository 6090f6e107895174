/- EntD EntP. -/
import Derived.Test.YtjeinblcpejpnabGreatDoorEntM
import Derived.Test.YtjeinblcpejpnabGreatDoorActA
import Derived.Deep.DeepCutAuto
import Derived.Deep.Light
import Derived.Deep.RegionHeld3
import Derived.Deep.DrawnRows

/- The first entry of a text. -/
namespace Go.Proofs.YtjeinblcpejpnabGreatDoor
open Go.RowKit
attribute [local go_sem ↓] Go.wp_at_zero Go.wp_at_succ

theorem bcell {W w1 : World} (hb : Below W.heap.size W w1) : (∀ b o, b < W.heap.size → w1.cell? ⟨b, o, none⟩ = W.cell? ⟨b, o, none⟩) ∧ (∀ b o, b < W.heap.size → w1.frozen? ⟨b, o, none⟩ = W.frozen? ⟨b, o, none⟩) :=
  ⟨fun b o h => hb.cell (p := ⟨b, o, none⟩) h, fun b o h => hb.frozen (p := ⟨b, o, none⟩) h⟩
theorem Blk.put3 {w : World} {b : Nat} {x y z x' y' z' : Value} {t : TypeId} (h : Blk w b #[x, y, z] t) : Blk (((w.setCell ⟨b, 0, none⟩ x').setCell ⟨b, 1, none⟩ y').setCell ⟨b, 2, none⟩ z') b #[x', y', z'] t :=
  ((h.set 0 x').set 1 y').set 2 z'
theorem Tryz.results91 : Tryz.f91.results = #[.cell 2 49, .tmp 3, .tmp 4] := by kernel_rfl

theorem check_ok (key val : ByteArray) (gone : Bool) (w : World) (h : faultB key val gone = 0) :
    Calls Tryz.prog 69 #[.agg #[.string key, .string val, .bool gone]] w fun e w' => e = .returned .nilIface ∧ ∃ c, w' = w.alloc (.cells c 49) := by
  refine (check_any key val gone w).mono ?_
  rintro e w' ⟨rfl, c, rfl⟩
  exact ⟨by rw [h]; rfl, c, rfl⟩
theorem check_bad (key val : ByteArray) (gone : Bool) (w : World) (h : ¬ faultB key val gone = 0) :
    Calls Tryz.prog 69 #[.agg #[.string key, .string val, .bool gone]] w fun e w' => (∃ n, e = .returned (.iface 88 (.int .i64 n)) ∧ n = faultB key val gone) ∧ ∃ c, w' = w.alloc (.cells c 49) := by
  refine (check_any key val gone w).mono ?_
  rintro e w' ⟨rfl, c, rfl⟩
  exact ⟨⟨_, by unfold errV; rw [if_neg h], rfl⟩, c, rfl⟩

set_option maxHeartbeats 4000000 in
theorem first_in (s : ByteArray) (w : World) (a b c : UInt8) (h3 : 3 ≤ s.size) (hs : s.size ≤ 281474976710656) (h0 : s[0] = a) (h1 : s[1] = b) (h2 : s[2] = c) (ha : a.toNat ≤ 1)
    (he : 3 + b.toNat + c.toNat ≤ s.size) :
    Calls Tryz.prog 91 #[.string s] w fun e w' =>
      ((faultB (s.extract 3 (3 + b.toNat)) (s.extract (3 + b.toNat) (3 + b.toNat + c.toNat)) ((a.toNat : Int) == 1) = 0 ∧
        e = .returned (.tuple #[.agg #[.string (s.extract 3 (3 + b.toNat)), .string (s.extract (3 + b.toNat) (3 + b.toNat + c.toNat)), .bool ((a.toNat : Int) == 1)], .int .i64 (3 + (b.toNat : Int) + (c.toNat : Int)), .bool true])) ∨
       (¬ faultB (s.extract 3 (3 + b.toNat)) (s.extract (3 + b.toNat) (3 + b.toNat + c.toNat)) ((a.toNat : Int) == 1) = 0 ∧
        e = .returned (.tuple #[.agg #[.string ⟨#[]⟩, .string ⟨#[]⟩, .bool false], .int .i64 0, .bool false]))) ∧ Ext w w' := by
  have ha' : ¬ (1 : Int) < (a.toNat : Int) := by omega
  have hb : b.toNat < 256 := b.toNat_lt
  have hc : c.toNat < 256 := c.toNat_lt
  have sl1 : ∀ W : World, (Instr.slice 9 (.string s) (some (.int .i64 3)) (some (.int .i64 (3 + (b.toNat : Int)))) none).run Tryz.prog W = .ok (.string (s.extract 3 (3 + b.toNat))) W := fun W => by
    have := run_slice_string (P := Tryz.prog) (w := W) 9 s .i64 .i64 3 (3 + (b.toNat : Int)) Tryz.underlying9 (by omega) (by omega) (by omega)
    rw [this, show (3 : Int).toNat = 3 from rfl, show (3 + (b.toNat : Int)).toNat = 3 + b.toNat by omega]
  have sl2 : ∀ W : World, (Instr.slice 9 (.string s) (some (.int .i64 (3 + (b.toNat : Int)))) (some (.int .i64 (3 + (b.toNat : Int) + (c.toNat : Int)))) none).run Tryz.prog W = .ok (.string (s.extract (3 + b.toNat) (3 + b.toNat + c.toNat))) W := fun W => by
    have := run_slice_string (P := Tryz.prog) (w := W) 9 s .i64 .i64 (3 + (b.toNat : Int)) (3 + (b.toNat : Int) + (c.toNat : Int)) Tryz.underlying9 (by omega) (by omega) (by omega)
    rw [this, show (3 + (b.toNat : Int)).toNat = 3 + b.toNat by omega, show (3 + (b.toNat : Int) + (c.toNat : Int)).toNat = 3 + b.toNat + c.toNat by omega]
  have ix0 : ∀ W : World, (Instr.index 9 (.string s) (.int .i64 0)).run Tryz.prog W = .ok (.int .u8 (a.toNat : Int)) W := fun W => by
    have h0' : (0 : Nat) < s.size := by omega
    simp [go_sem, Tryz.underlying9, h0', h0]
  generalize hK : s.extract 3 (3 + b.toNat) = K at *
  generalize hV : s.extract (3 + b.toNat) (3 + b.toNat + c.toNat) = V at *
  have HK : Hid (s.extract 3 (3 + b.toNat) = K) := hK
  have HV : Hid (s.extract (3 + b.toNat) (3 + b.toNat + c.toNat) = V) := hV
  have hKs : K.size ≤ 281474976710656 := by rw [← hK]; simp; omega
  have hVs : V.size ≤ 281474976710656 := by rw [← hV]; simp; omega
  clear hK hV
  have hp : 0 < s.size := by omega
  have h3' : ¬ ((s.size : Int) < 3) := by omega
  have he' : ¬ ((s.size : Int) < 3 + (b.toNat : Int) + (c.toNat : Int)) := by omega
  go_enter Tryz.func91, Tryz.ntmps91
  go_upto_region 7 with fail
  go_cut [7] (fun s7 wx => ∃ blk, s7 = .pointer (some ⟨blk, 0, none⟩) ∧ Blk wx blk #[.string K, .string V, .bool ((a.toNat : Int) == 1)] 49 ∧ Blk wx w.heap.size #[.string ⟨#[]⟩, .string ⟨#[]⟩, .bool false] 49 ∧ blk ≠ w.heap.size ∧ Ext w wx)
  case first =>
    go_region_held3 (fun _ => True) (trivial) (first | (go_at_call_of 115 (Value.string K); refine (clone_any K _ hKs).mono ?_; rintro e w' ⟨rfl, hbel⟩; have hsz := fun k (h : k < _) => Nat.lt_of_lt_of_le h hbel.size; obtain ⟨hcc, hff⟩ := bcell hbel; have hx : Ext _ _ := ⟨hbel⟩; clear hbel) | (go_at_call_of 115 (Value.string V); refine (clone_any V _ hVs).mono ?_; rintro e w' ⟨rfl, hbel⟩; have hsz := fun k (h : k < _) => Nat.lt_of_lt_of_le h hbel.size; obtain ⟨hcc, hff⟩ := bcell hbel; have hx : Ext _ _ := ⟨hbel⟩; clear hbel))
    all_goals go_wp2_with fail
    all_goals go_meet
    all_goals refine ⟨_, rfl, ?_, ?_, Ne.symm ?_, ?_⟩
    all_goals go_light
    all_goals clear hcc hff hsz sl1 sl2 ix0 HK HV
    all_goals (repeat (first | with_reducible exact Blk.new _ _ _ | with_reducible exact Ext.refl _ | with_reducible refine Blk.drew ?_ | with_reducible refine Ext.drew ?_ | with_reducible refine Blk.put3 (x := .string ⟨#[]⟩) (y := .string ⟨#[]⟩) (z := .bool false) ?_ | with_reducible refine Blk.other ?_ ?_ _ | with_reducible refine Ext.set ?_ ?_ _ | (with_reducible refine Blk.new' _ _ _ ?_; simp; done) | with_reducible refine Blk.alloc ?_ _ | with_reducible refine Ext.alloc ?_ _ | with_reducible refine Blk.ext ‹Ext _ _› ?_ | with_reducible refine Ext.trans ?_ ‹Ext _ _› | (show (_ : Nat) ≠ _; (try dsimp only); omega) | (show (_ : Nat) ≤ _; (try dsimp only); omega) | refine (Blk.ne_new (cs := #[.string ⟨#[]⟩, .string ⟨#[]⟩, .bool false]) (t := 49) ?_) | refine Ext.size (a := w) ?_))
  case rest =>
    obtain ⟨blk, rfl, hB, hR, hne, hx⟩ := hcut
    have c0 := hB.cell 0
    have c1 := hB.cell 1
    have c2 := hB.cell 2
    have r0 := hR.cell 0
    have r1 := hR.cell 1
    have r2 := hR.cell 2
    have f0 := hR.free 0
    have f1 := hR.free 1
    have f2 := hR.free 2
    have hlt := hR.lt
    have hlt2 := hB.lt
    have hsz := hx.size
    simp at c0 c1 c2 r0 r1 r2
    by_cases HF : faultB K V ((a.toNat : Int) == 1) = 0
    · have HH : Hid (faultB K V ((a.toNat : Int) == 1) = 0) := HF
      clear HF
      go_wp2_with (go_at_call 69; refine (check_ok K V _ _ HH.out).mono ?_; rintro e w' ⟨rfl, cc, rfl⟩)
      refine bodyPost_ret (v := .tuple #[.agg #[.string K, .string V, .bool ((a.toNat : Int) == 1)], .int .i64 (3 + (b.toNat : Int) + (c.toNat : Int)), .bool true]) (by simp [results, go_sem, r0, r1, r2, hlt]) rfl ⟨.inl ⟨HH.out, rfl⟩, ?_⟩
      refine Ext.alloc (Ext.set (Ext.set (Ext.set hx ?_ _) ?_ _) ?_ _) _ <;> exact Nat.le_refl _
    · have HH : Hid (¬ faultB K V ((a.toNat : Int) == 1) = 0) := HF
      clear HF
      go_wp2_with (go_at_call 69; refine (check_bad K V _ _ HH.out).mono ?_; rintro e w' ⟨⟨nn, rfl, _⟩, cc, rfl⟩)
      refine bodyPost_ret (v := .tuple #[.agg #[.string ⟨#[]⟩, .string ⟨#[]⟩, .bool false], .int .i64 0, .bool false]) (by simp [results, go_sem, r0, r1, r2, hlt]) rfl ⟨.inr ⟨HH.out, rfl⟩, ?_⟩
      refine Ext.alloc (Ext.set (Ext.set (Ext.set hx ?_ _) ?_ _) ?_ _) _ <;> exact Nat.le_refl _

set_option maxHeartbeats 1000000 in
theorem first_short (s : ByteArray) (w : World) (h : s.size < 3) :
    Calls Tryz.prog 91 #[.string s] w fun e w' => e = .returned (.tuple #[.agg #[.string ⟨#[]⟩, .string ⟨#[]⟩, .bool false], .int .i64 0, .bool false]) ∧ Ext w w' := by
  go_enter Tryz.func91, Tryz.ntmps91
  go_wp2
  refine bodyPost_ret (v := .tuple #[.agg #[.string ⟨#[]⟩, .string ⟨#[]⟩, .bool false], .int .i64 0, .bool false]) (by simp [results, go_sem]) rfl ⟨rfl, ?_⟩
  exact (Ext.refl _).alloc _

set_option maxHeartbeats 1000000 in
theorem first_high (s : ByteArray) (w : World) (a : UInt8) (h : 3 ≤ s.size) (h0 : s[0] = a) (ha : ¬ a.toNat ≤ 1) :
    Calls Tryz.prog 91 #[.string s] w fun e w' => e = .returned (.tuple #[.agg #[.string ⟨#[]⟩, .string ⟨#[]⟩, .bool false], .int .i64 0, .bool false]) ∧ Ext w w' := by
  have hp : 0 < s.size := by omega
  have ha' : (1 : Int) < (a.toNat : Int) := by omega
  go_enter Tryz.func91, Tryz.ntmps91
  go_wp2
  refine bodyPost_ret (v := .tuple #[.agg #[.string ⟨#[]⟩, .string ⟨#[]⟩, .bool false], .int .i64 0, .bool false]) (by simp [results, go_sem]) rfl ⟨rfl, ?_⟩
  exact (Ext.refl _).alloc _

set_option maxHeartbeats 1000000 in
theorem first_far (s : ByteArray) (w : World) (a b c : UInt8) (h : 3 ≤ s.size) (hs : s.size ≤ 281474976710656) (h0 : s[0] = a) (h1 : s[1] = b) (h2 : s[2] = c) (ha : a.toNat ≤ 1) (he : ¬ 3 + b.toNat + c.toNat ≤ s.size) :
    Calls Tryz.prog 91 #[.string s] w fun e w' => e = .returned (.tuple #[.agg #[.string ⟨#[]⟩, .string ⟨#[]⟩, .bool false], .int .i64 0, .bool false]) ∧ Ext w w' := by
  have hp : 0 < s.size := by omega
  have ha' : ¬ (1 : Int) < (a.toNat : Int) := by omega
  have hb : b.toNat < 256 := b.toNat_lt
  have hc : c.toNat < 256 := c.toNat_lt
  go_enter Tryz.func91, Tryz.ntmps91
  go_wp2
  refine bodyPost_ret (v := .tuple #[.agg #[.string ⟨#[]⟩, .string ⟨#[]⟩, .bool false], .int .i64 0, .bool false]) (by simp [results, go_sem]) rfl ⟨rfl, ?_⟩
  exact (Ext.refl _).alloc _

def zeroE : Value := .agg #[.string ⟨#[]⟩, .string ⟨#[]⟩, .bool false]
theorem gone_int (n : Nat) : ((n : Int) == 1) = (n == 1) := by
  rw [Bool.eq_iff_iff]; simp; omega

theorem first_none (s : ByteArray) (w : World) (hs : s.size ≤ 281474976710656) (h : firstS s = none) :
    Calls Tryz.prog 91 #[.string s] w fun e w' => e = .returned (.tuple #[.agg #[.string ⟨#[]⟩, .string ⟨#[]⟩, .bool false], .int .i64 0, .bool false]) ∧ Ext w w' := by
  by_cases h3 : 3 ≤ s.size
  · have e0 := byteAt_eq s 0 (by omega)
    have e1 := byteAt_eq s 1 (by omega)
    have e2 := byteAt_eq s 2 (by omega)
    by_cases ha : s[0].toNat ≤ 1
    · by_cases he : 3 + s[1].toNat + s[2].toNat ≤ s.size
      · refine (first_in s w s[0] s[1] s[2] h3 hs rfl rfl rfl ha he).mono ?_
        rintro e w' ⟨h1 | h1, hx⟩
        · exfalso
          unfold firstS at h
          rw [e0, e1, e2, ← gone_int, if_pos ⟨h3, ha, he, h1.1⟩] at h
          simp at h
        · exact ⟨h1.2, hx⟩
      · exact first_far s w s[0] s[1] s[2] h3 hs rfl rfl rfl ha he
    · exact first_high s w s[0] h3 rfl ha
  · exact first_short s w (by omega)

theorem first_some (s : ByteArray) (w : World) (hs : s.size ≤ 281474976710656) (e : Ent) (n : Nat) (h : firstS s = some (e, n)) :
    Calls Tryz.prog 91 #[.string s] w fun r w' => r = .returned (.tuple #[.agg #[.string e.key, .string e.val, .bool e.gone], .int .i64 (n : Int), .bool true]) ∧ Ext w w' := by
  unfold firstS at h
  split at h
  · rename_i hc
    obtain ⟨h3, ha, he, hf⟩ := hc
    have e0 := byteAt_eq s 0 (by omega)
    have e1 := byteAt_eq s 1 (by omega)
    have e2 := byteAt_eq s 2 (by omega)
    rw [e0] at ha
    rw [e1, e2] at he
    rw [e0, e1, e2, ← gone_int] at hf
    rw [e0, e1, e2] at h
    simp only [Option.some.injEq, Prod.mk.injEq] at h
    obtain ⟨rfl, rfl⟩ := h
    refine (first_in s w s[0] s[1] s[2] h3 hs rfl rfl rfl ha he).mono ?_
    rintro r w' ⟨h1 | h1, hx⟩
    · refine ⟨?_, hx⟩
      rw [h1.2, gone_int]
      simp only [Int.natCast_add]
      rfl
    · exact absurd hf h1.1
  · simp at h

end Go.Proofs.YtjeinblcpejpnabGreatDoor

/- What Parse answers. -/
namespace Go.Proofs.YtjeinblcpejpnabGreatDoor
open Go.RowKit
attribute [local go_sem ↓] Go.wp_at_zero Go.wp_at_succ

/-- Behind k rounds: es are read, 'rest' is left. -/
structure PGood (s : ByteArray) (n k : Nat) (rest : ByteArray) (es : List Ent) : Prop where
  len : es.length = k
  size : rest.size ≤ s.size
  spec : parseT s = (parseS (n - k) rest).map (es ++ ·)

theorem ownsRow_ext {a b : World} {base : Nat} {t : TypeId} {size n : Nat} {v : Value} {xs : List Value} (h : a.ownsRow base t size v n xs) (he : Ext a b) : b.ownsRow base t size v n xs := by
  refine ⟨h.1, ?_⟩
  rcases h.2 with hn | ⟨g, cap, cur, rfl, hb, hgg, rest⟩
  · exact .inl hn
  · exact .inr ⟨g, cap, cur, rfl, hb, by rw [he.below.block g (lt_of_block hgg)]; exact hgg, rest⟩
theorem own_geP {a b : World} {base : Nat} {t : TypeId} {size n : Nat} {v : Value} {xs : List Value} (h : b.ownsRow base t size v n xs) (hb : base = a.heap.size) : ∀ k, v.ownBlock = some k → a.heap.size ≤ k :=
  fun k hk => hb ▸ (h.lt k hk).1
theorem PGood.step {s rest : ByteArray} {n k m : Nat} {es : List Ent} {e : Ent} (h : PGood s n k rest es) (hk : k < n) (hf : firstS rest = some (e, m)) : PGood s n (k + 1) (rest.extract m rest.size) (es ++ [e]) := by
  refine ⟨by simp [h.len], ?_, ?_⟩
  · have := h.size; simp; omega
  · rw [h.spec, show n - k = (n - (k + 1)) + 1 by omega, parseS, hf]
    simp only [Option.map_map]
    congr 1; funext x; simp
theorem PGood.stop {s rest : ByteArray} {n k : Nat} {es : List Ent} (h : PGood s n k rest es) (hk : k < n) (hf : firstS rest = none) : parseT s = none := by
  rw [h.spec, show n - k = (n - (k + 1)) + 1 by omega, parseS, hf]; rfl
theorem PGood.fin {s rest : ByteArray} {n k : Nat} {es : List Ent} (h : PGood s n k rest es) (hk : k = n) : parseT s = if blankL rest.data.toList then some es else none := by
  subst hk
  rw [h.spec, Nat.sub_self, parseS]; split <;> simp
theorem first_size {s : ByteArray} {e : Ent} {m : Nat} (h : firstS s = some (e, m)) : m ≤ s.size := by
  unfold firstS at h; split at h
  · rename_i hc; simp only [Option.some.injEq, Prod.mk.injEq] at h; omega
  · simp at h

/-- What is answered. -/
def ParseEnd (s : ByteArray) (w : World) (e : Ending) (w' : World) : Prop :=
  (parseT s = none ∧ e = .returned (.tuple #[.slice none 0 0, .iface 88 (.int .i64 4)]) ∧ Ext w w') ∨
  (∃ es v, parseT s = some es ∧ e = .returned (.tuple #[v, .nilIface]) ∧ w'.ownsRow w.heap.size 49 3 v es.length (rowOf es) ∧ Ext w w')

set_option maxHeartbeats 1000000 in
set_option maxRecDepth 20000 in
theorem parse_any (s : ByteArray) (w : World) (hs : s.size ≤ 281474976710656) :
    Calls Tryz.prog 61 #[.string s] w (ParseEnd s w) := by
  by_cases h0 : s.size = 0
  · have h0' : s.toList = [] := (toList_nil s).2 h0
    have HP : Hid (parseT s = none) := by unfold parseT Hid; rw [if_pos h0]
    clear h0
    go_enter Tryz.func61, Tryz.ntmps61
    go_wp2
    go_ret2
    exact .inl ⟨HP.out, rfl, Ext.refl _⟩
  · have hp : 0 < s.size := by omega
    have h0' : s.toList.isEmpty = false := by rw [List.isEmpty_eq_false_iff]; exact fun h => h0 ((toList_nil s).1 h)
    obtain ⟨i0, hi, hz0, hz1, hz2⟩ := info_parts Tryz.info49
    obtain ⟨nb, hnb⟩ : ∃ nb, s[0] = nb := ⟨_, rfl⟩
    have hlt := nb.toNat_lt
    go_enter Tryz.func61, Tryz.ntmps61
    go_wp2
    go_quiet (fail)
    go_wp2_with (at_make; refine wpList_make_own _ rfl _ _ 37 rfl w.heap.size 49 i0 (.agg #[.string ⟨#[]⟩, .string ⟨#[]⟩, .bool false]) 3 Tryz.underlying37 hi hz0 hz1 _ _ _ nb.toNat rfl rfl (by omega) ?b2 ?b3 (Nat.le_refl _) ?_)
    case b2 => rw [hz2]; omega
    case b3 => unfold maxLen; omega
    intro w1 hown hgrow
    have hx : Ext w w1 := ((Ext.refl w).drewN nq).grown hgrow (by intro k h; cases h)
    have HG : PGood s nb.toNat 0 (s.extract 1 s.size) [] := ⟨rfl, by simp, by
      unfold parseT; rw [if_neg (by omega), byteAt_eq s 0 hp, hnb]; simp⟩
    clear hgrow
    go_wp2_with fail
    go_loopw [5, 6, 21] (fun r l i wr => ∃ (k : Nat) (rest : ByteArray) (es : List Ent), k ≤ nb.toNat ∧ i = .int .i64 k ∧ r = .string rest ∧ wr.ownsRow w.heap.size 49 3 l es.length (rowOf es) ∧ Ext w wr ∧ PGood s nb.toNat k rest es)
      (fun _ _ i _ => nb.toNat - (intOf i).toNat)
    case atStart => exact ⟨0, _, [], Nat.zero_le _, rfl, rfl, hown, hx, HG⟩
    case round =>
      clear hown hx HG hnb h0' hp h0
      obtain ⟨k, rest, es, hk, rfl, rfl, hown, hx, hg⟩ := hrel
      have hrs : rest.size ≤ 281474976710656 := Nat.le_trans hg.size hs
      by_cases hlt : k < nb.toNat
      · cases hf : firstS rest with
        | none =>
          have HP : Hid (parseT s = none) := hg.stop hlt hf
          have HF : Hid (firstS rest = none) := hf
          clear hf hown hg
          go_wp2_with (go_at_call 91; refine (first_none rest _ hrs HF.out).mono ?_; rintro e w' ⟨rfl, hx1⟩)
          go_ret2
          exact .inl ⟨HP.out, rfl, (hx.trans hx1).alloc _⟩
        | some p =>
          obtain ⟨e, m⟩ := p
          have HF : Hid (firstS rest = some (e, m)) := hf
          have hm := first_size hf
          have hg' := hg.step hlt hf
          clear hf
          obtain ⟨key, val, gone⟩ := e
          go_wp2_with (first
            | (go_at_call 91; refine (first_some rest _ hrs _ m HF.out).mono ?_; rintro e w' ⟨rfl, hx1⟩; have hown1 := ownsRow_ext hown hx1)
            | (at_builtin; refine wpList_append_own _ rfl _ _ 37 rfl w.heap.size 49 i0 (.agg #[.string ⟨#[]⟩, .string ⟨#[]⟩, .bool false]) 3 40 Tryz.underlying37 hi hz0 hz1 hz2 rfl (by decide) _ _ _ rfl ((hown1.alloc _).alloc _) ⟨w'.heap.size + 1, 0, none⟩ 1 1 [.string key, .string val, .bool gone] rfl rfl ?c1 ?c2 ?c3 ?c4 ?c5 ?_))
          case c1 => exact news_cells (Blk.new' _ _ _ (by simp))
          case c2 => intro u hu; simp at hu; rcases hu with rfl | rfl | rfl <;> rfl
          case c3 => have := hg.len; unfold maxLen; omega
          case c4 => have := hg.len; omega
          case c5 => have := (hx.trans hx1).size; simp; omega
          intro v' w2 hown2 hgrow2 _
          have hx2 : Ext w w2 := (((hx.trans hx1).alloc _).alloc _).grown hgrow2 (own_geP hown rfl)
          have hown3 : w2.ownsRow w.heap.size 49 3 v' (es ++ [(⟨key, val, gone⟩ : Ent)]).length (rowOf (es ++ [(⟨key, val, gone⟩ : Ent)])) := by
            rw [rowOf_snoc]; simpa [entCells] using hown2
          clear hown2 hgrow2 hown1 hown hx hx1
          go_wp2
          go_roundw
          case rel => exact ⟨k + 1, _, _, by omega, by go_num, rfl, hown3, hx2, hg'⟩
          case measure => simp [intOf]; omega
      · have hkn : k = nb.toNat := by omega
        have HP : Hid (parseT s = if blankL rest.data.toList then some es else none) := hg.fin hkn
        clear hkn hg
        cases hb : blankL rest.data.toList with
        | true =>
          go_wp2_with (go_at_call 92; refine (blank_any rest _ (by omega)).mono ?_; rw [hb]; rintro e w' ⟨rfl, rfl⟩)
          go_ret2
          exact .inr ⟨es, _, by rw [HP.out, hb]; rfl, rfl, hown, hx⟩
        | false =>
          go_wp2_with (go_at_call 92; refine (blank_any rest _ (by omega)).mono ?_; rw [hb]; rintro e w' ⟨rfl, rfl⟩)
          go_ret2
          exact .inl ⟨by rw [HP.out, hb]; rfl, rfl, hx⟩

end Go.Proofs.YtjeinblcpejpnabGreatDoor
