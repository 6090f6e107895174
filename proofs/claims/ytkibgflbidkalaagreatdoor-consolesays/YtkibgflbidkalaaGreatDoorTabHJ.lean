/- FilM FilA TabE TabF TabG TabH. -/
import Derived.Test.YtkibgflbidkalaaGreatDoorRows
import Derived.WalkKit
import Derived.Laws.BitsAllLaws
import Derived.Test.YtkibgflbidkalaaGreatDoorWldJ
import Derived.WalkSpells
import Derived.WalkLawsBesides
import Derived.Deep.QuietTactic
import Derived.BigQuiet
import Derived.Test.YtkibgflbidkalaaGreatDoorTabDJ
import Derived.Test.YtkibgflbidkalaaGreatDoorManBJ
import Derived.Deep.OwnRows
import Derived.RangeFuncNested
import Derived.RangeFuncBound
import Derived.RangeFuncCalls
import Derived.RangeFuncLeaves
import Derived.Shelf.Abstract
import Derived.Shelf.RegionOpen
import Derived.OwnWalkIn
import Derived.TacticsInMore
import Derived.LoopNIn
import Derived.LoopIn

/- Filters: bits of a number. -/
namespace Go.Proofs.YtkibgflbidkalaaGreatDoor
open Go.RowKit
def spotA (l : List UInt8) : Nat := l.foldl (fun a c => (31 * a + c.toNat) % 10007) 7
def spotB (l : List UInt8) : Nat := l.foldl (fun b c => (17 * b + c.toNat + 5) % 7919) 3
theorem foldl_lt (f : Nat → UInt8 → Nat) (m : Nat) (hf : ∀ a c, f a c < m) (l : List UInt8) (a : Nat) (h : a < m) : l.foldl f a < m := by
  induction l generalizing a with
  | nil => exact h
  | cons x r ih => exact ih _ (hf _ _)
theorem spotA_lt (l : List UInt8) : spotA l < 10007 := foldl_lt _ _ (fun _ _ => Nat.mod_lt _ (by omega)) _ _ (by omega)
theorem spotB_lt (l : List UInt8) : spotB l < 7919 := foldl_lt _ _ (fun _ _ => Nat.mod_lt _ (by omega)) _ _ (by omega)
def maskN (l : List UInt8) : Nat := 2 ^ (spotA l % 64) ||| 2 ^ (spotB l % 64)
theorem maskN_lt (l : List UInt8) : maskN l < 2 ^ 64 :=
  Nat.or_lt_two_pow (Nat.pow_lt_pow_right (by omega) (Nat.mod_lt _ (by omega))) (Nat.pow_lt_pow_right (by omega) (Nat.mod_lt _ (by omega)))
def filterN (ks : List ByteArray) : Nat := ks.foldl (fun f k => f ||| maskN k.data.toList) 0
theorem filterN_snoc (ks : List ByteArray) (k : ByteArray) : filterN (ks ++ [k]) = filterN ks ||| maskN k.data.toList := by simp [filterN]
theorem filterN_lt (ks : List ByteArray) : filterN ks < 2 ^ 64 := by
  unfold filterN
  suffices ∀ f : Nat, f < 2 ^ 64 → ks.foldl (fun f k => f ||| maskN k.data.toList) f < 2 ^ 64 from this 0 (by omega)
  intro f hf
  induction ks generalizing f with
  | nil => exact hf
  | cons x r ih => exact ih _ (Nat.or_lt_two_pow hf (maskN_lt _))
def mayN (f : Nat) (l : List UInt8) : Bool := f.testBit (spotA l % 64) && f.testBit (spotB l % 64)
theorem mayN_mask (f : Nat) (l : List UInt8) : ((f &&& maskN l) == maskN l) = mayN f l := by
  rw [Bool.eq_iff_iff]
  unfold mayN maskN
  simp only [beq_iff_eq, Bool.and_eq_true]
  generalize spotA l % 64 = a
  generalize spotB l % 64 = b
  constructor
  · intro h
    have ha : (f &&& (2 ^ a ||| 2 ^ b)).testBit a = true := by rw [h]; simp [Nat.testBit_two_pow]
    have hb : (f &&& (2 ^ a ||| 2 ^ b)).testBit b = true := by rw [h]; simp [Nat.testBit_two_pow]
    simp at ha hb
    exact ⟨ha, hb⟩
  · rintro ⟨ha, hb⟩
    apply Nat.eq_of_testBit_eq
    intro i
    simp only [Nat.testBit_and, Nat.testBit_or, Nat.testBit_two_pow]
    by_cases h1 : a = i
    · subst h1; simp [ha]
    · by_cases h2 : b = i
      · subst h2; simp [hb]
      · simp [h1, h2]
theorem mayN_or (f g : Nat) (l : List UInt8) (h : mayN f l = true) : mayN (f ||| g) l = true := by
  unfold mayN at *; simp only [Bool.and_eq_true, Nat.testBit_or, Bool.or_eq_true] at *; exact ⟨.inl h.1, .inl h.2⟩
theorem mayN_or' (f g : Nat) (l : List UInt8) (h : mayN g l = true) : mayN (f ||| g) l = true := by rw [Nat.or_comm]; exact mayN_or g f l h
theorem mayN_self (l : List UInt8) : mayN (maskN l) l = true := by
  rw [← mayN_mask, Nat.and_self]; simp
theorem fold_or (ks : List ByteArray) (f : Nat) : ks.foldl (fun f k => f ||| maskN k.data.toList) f = f ||| filterN ks := by
  induction ks generalizing f with
  | nil => simp [filterN]
  | cons x r ih =>
    have e : filterN (x :: r) = maskN x.data.toList ||| filterN r := by unfold filterN; rw [List.foldl_cons, Nat.zero_or]; exact ih _
    rw [List.foldl_cons, ih, e, Nat.or_assoc]
theorem filterN_app (ks ms : List ByteArray) : filterN (ks ++ ms) = filterN ks ||| filterN ms := by
  unfold filterN; rw [List.foldl_append]; exact fold_or ms _
theorem mayN_mem (ks : List ByteArray) (k : ByteArray) (h : k ∈ ks) : mayN (filterN ks) k.data.toList = true := by
  obtain ⟨a, b, rfl⟩ := List.append_of_mem h
  rw [filterN_app]
  apply mayN_or'
  rw [show k :: b = [k] ++ b from rfl, filterN_app]
  apply mayN_or
  show mayN (0 ||| maskN _) _ = true
  rw [Nat.zero_or]; exact mayN_self _
end Go.Proofs.YtkibgflbidkalaaGreatDoor

/- Filters: what spots, May, Of, and the document's answers, say. -/
namespace Go.Proofs.YtkibgflbidkalaaGreatDoor
open Go.RowKit

theorem w64_in (n : Int) (h : -9223372036854775808 ≤ n ∧ n ≤ 9223372036854775807) : wrap64 n = n := by unfold wrap64; omega
theorem take_byte (s : ByteArray) (k : Nat) (h : k < s.size) : s.data.toList.take (k + 1) = s.data.toList.take k ++ [s[k]] := by
  rw [List.take_add_one, List.getElem?_eq_getElem (by simpa using h)]; rfl
theorem spotA_step (s : ByteArray) (k : Nat) (h : k < s.size) : (wrap64 (31 * (spotA (s.data.toList.take k) : Int) + wrap64 (s[k].toNat : Int))).tmod 10007 = (spotA (s.data.toList.take (k + 1)) : Int) := by
  have hA := spotA_lt (s.data.toList.take k)
  have hc := s[k].toNat_lt
  have e : spotA (s.data.toList.take (k + 1)) = (31 * spotA (s.data.toList.take k) + s[k].toNat) % 10007 := by rw [take_byte s k h]; simp [spotA]
  rw [e, w64_in (s[k].toNat : Int) (by omega), w64_in _ (by omega), Int.tmod_eq_emod_of_nonneg (by omega)]
  omega
theorem spotB_step (s : ByteArray) (k : Nat) (h : k < s.size) : (wrap64 (wrap64 (17 * (spotB (s.data.toList.take k) : Int) + wrap64 (s[k].toNat : Int)) + 5)).tmod 7919 = (spotB (s.data.toList.take (k + 1)) : Int) := by
  have hA := spotB_lt (s.data.toList.take k)
  have hc := s[k].toNat_lt
  have e : spotB (s.data.toList.take (k + 1)) = (17 * spotB (s.data.toList.take k) + s[k].toNat + 5) % 7919 := by rw [take_byte s k h]; simp [spotB]
  rw [e, w64_in (s[k].toNat : Int) (by omega), w64_in (17 * _ + _) (by omega), w64_in _ (by omega), Int.tmod_eq_emod_of_nonneg (by omega)]
  omega
theorem take_all (s : ByteArray) (k : Nat) (h : ¬ k < s.size) : s.data.toList.take k = s.data.toList := List.take_of_length_le (by simp; omega)
theorem wrap_pow (a : Nat) (h : a < 64) : IntKind.u64.wrap ((2 : Int) ^ a) = ((2 ^ a : Nat) : Int) := by
  have h1 : (2 : Int) ^ a = ((2 ^ a : Nat) : Int) := by simp
  have h2 : 2 ^ a < 2 ^ 64 := Nat.pow_lt_pow_right (by omega) h
  rw [h1]
  generalize 2 ^ a = P at *
  rw [IntKind.wrap_u64]; omega
theorem or_mask (l : List UInt8) : bits .or .u64 (2 ^ (spotA l % 64) : Nat) (2 ^ (spotB l % 64) : Nat) = (maskN l : Int) := by
  rw [u64_or_nat]
  · rfl
  · exact Nat.pow_lt_pow_right (n := 64) (by omega) (Nat.mod_lt _ (by omega))
  · exact Nat.pow_lt_pow_right (n := 64) (by omega) (Nat.mod_lt _ (by omega))

set_option maxHeartbeats 1000000 in
theorem spots_any (s : ByteArray) (w : World) (hs : s.size ≤ 4611686018427387904) :
    Calls Tryz.prog 183 #[.string s] w fun e w' => e = .returned (.int .u64 (maskN s.data.toList : Int)) ∧ ∃ q, w' = w.drewN q := by
  go_enter Tryz.func183, Tryz.ntmps183
  go_wp2
  go_loop [3, 4, 5, 6, 9] (fun a b _ _ i => ∃ k : Nat, k ≤ s.size ∧ i = .int .i64 k ∧ a = .int .i64 (spotA (s.data.toList.take k)) ∧ b = .int .i64 (spotB (s.data.toList.take k))) (fun _ _ _ _ i => s.size - (intOf i).toNat)
  case atStart => exact ⟨0, Nat.zero_le _, rfl, rfl, rfl⟩
  case round =>
    obtain ⟨k, hk, rfl, rfl, rfl⟩ := hrel
    by_cases hlt : k < s.size
    · have hA := spotA_lt (s.data.toList.take k)
      have hB := spotB_lt (s.data.toList.take k)
      go_wp2
      go_round
      case rel => exact ⟨k + 1, by omega, by go_num, by rw [spotA_step s k hlt], by rw [spotB_step s k hlt]⟩
      case measure => simp [intOf]; omega
    · rw [take_all s k hlt]
      have hA := spotA_lt s.data.toList
      have hB := spotB_lt s.data.toList
      have HM : Hid (bits .or .u64 (2 ^ (spotA s.data.toList % 64) : Nat) (2 ^ (spotB s.data.toList % 64) : Nat) = (maskN s.data.toList : Int)) := or_mask _
      generalize spotA s.data.toList = A at *
      generalize spotB s.data.toList = B at *
      have m1 : (A : Int).tmod 64 = ((A % 64 : Nat) : Int) := by rw [Int.tmod_eq_emod_of_nonneg (by omega)]; omega
      have m2 : (B : Int).tmod 64 = ((B % 64 : Nat) : Int) := by rw [Int.tmod_eq_emod_of_nonneg (by omega)]; omega
      go_wp2
      go_quiet (fail)
      go_wp2
      go_ret
      refine ⟨ret_of ?_, nq, rfl⟩
      rw [← HM.out, ← wrap_pow (A % 64) (Nat.mod_lt _ (by omega)), ← wrap_pow (B % 64) (Nat.mod_lt _ (by omega))]
      rfl

set_option maxHeartbeats 1000000 in
theorem may_any (f : Nat) (s : ByteArray) (w : World) (hf : f < 18446744073709551616) (hs : s.size ≤ 4611686018427387904) :
    Calls Tryz.prog 181 #[.int .u64 (f : Int), .string s] w fun e w' => e = .returned (.bool (mayN f s.data.toList)) ∧ ∃ q, w' = w.drewN q := by
  have hb := u64_and_nat f (maskN s.data.toList) hf (maskN_lt _)
  have HR : Hid (((f &&& maskN s.data.toList) == maskN s.data.toList) = mayN f s.data.toList) := mayN_mask _ _
  go_enter Tryz.func181, Tryz.ntmps181
  go_wp2_with (go_at_call 183; refine (spots_any s _ hs).mono ?_; rintro e w' ⟨rfl, q, rfl⟩)
  go_ret
  refine ⟨ret_of ?_, q, rfl⟩
  rw [← HR.out]
  refine congrArg Value.bool ?_
  rw [Bool.eq_iff_iff]; simp only [beq_iff_eq]; omega

def TxtsAt (w : World) (ao : Option Addr) (ts : List ByteArray) : Prop :=
  ts ≠ [] → ∃ b off, ao = some ⟨b, off, none⟩ ∧ ∀ i t, ts[i]? = some t → w.cell? ⟨b, off + i, none⟩ = some (.string t)
theorem TxtsAt.get {w : World} {ao : Option Addr} {ts : List ByteArray} (h : TxtsAt w ao ts) {k : Nat} (hk : k < ts.length) :
    ∃ b off t, ao = some ⟨b, off, none⟩ ∧ ts[k]? = some t ∧ w.cell? ⟨b, off + k, none⟩ = some (.string t) := by
  obtain ⟨b, off, rfl, hc⟩ := h (by intro e; subst e; simp at hk)
  have he : ts[k]? = some ts[k] := List.getElem?_eq_getElem hk
  exact ⟨b, off, ts[k], rfl, he, hc k _ he⟩
theorem take_snocT {ts : List ByteArray} {k : Nat} {t : ByteArray} (h : ts[k]? = some t) : ts.take (k + 1) = ts.take k ++ [t] := by
  rw [List.take_add_one, h]; rfl
theorem or_step (ts : List ByteArray) (k : Nat) (t : ByteArray) (h : ts[k]? = some t) : bits .or .u64 (filterN (ts.take k) : Int) (maskN t.data.toList : Int) = (filterN (ts.take (k + 1)) : Int) := by
  rw [u64_or_nat _ _ (filterN_lt _) (maskN_lt _), take_snocT h, filterN_snoc]

set_option maxHeartbeats 1000000 in
theorem of_any (ao : Option Addr) (cap : Nat) (ts : List ByteArray) (w : World) (hl : ts.length ≤ 9223372036854775807) (hs : ∀ t ∈ ts, t.size ≤ 4611686018427387904) (hts : TxtsAt w ao ts) :
    Calls Tryz.prog 180 #[.slice ao ts.length cap] w fun e w' => e = .returned (.int .u64 (filterN ts : Int)) ∧ ∃ q, w' = w.drewN q := by
  go_enter Tryz.func180, Tryz.ntmps180
  go_wp2
  go_loopw [3, 5, 8] (fun f _ i wr => ∃ (k q : Nat), k ≤ ts.length ∧ i = .int .i64 k ∧ f = .int .u64 (filterN (ts.take k) : Int) ∧ wr = w.drewN q) (fun _ _ i _ => ts.length - (intOf i).toNat)
  case atStart => exact ⟨0, 0, Nat.zero_le _, rfl, rfl, rfl⟩
  case round =>
    obtain ⟨k, q, hk, rfl, rfl, rfl⟩ := hrel
    by_cases hlt : k < ts.length
    · obtain ⟨b, off, t, rfl, he, h1⟩ := hts.get hlt
      have hss := hs t (List.mem_of_getElem? he)
      have ho := or_step ts k t he
      clear he hts hs
      go_wp2_with (go_at_call 183; refine (spots_any t _ hss).mono ?_; rintro e w' ⟨rfl, q2, rfl⟩)
      go_roundw
      case rel => exact ⟨k + 1, _, by omega, by go_num, rfl, rfl⟩
      case measure => simp [intOf]; omega
    · have hkn : ts.take k = ts := List.take_of_length_le (by omega)
      rw [hkn]
      clear hts hs hkn
      go_wp2
      go_ret
      exact ⟨rfl, _, rfl⟩
end Go.Proofs.YtkibgflbidkalaaGreatDoor

/- Tables: the first page. -/
namespace Go.Proofs.YtkibgflbidkalaaGreatDoor
open Go.RowKit Go.WideShapes
attribute [local go_sem ↓] Go.wp_at_zero Go.wp_at_succ

def keysE (es : List Ent) : List ByteArray := es.map Ent.key
def byteN (f i : Nat) : UInt8 := UInt8.ofNat (f / 256 ^ i % 256)
def headB (f : Nat) (k : Nat) : List UInt8 := 70 :: (List.range k).map (byteN f)
theorem headB_succ (f k : Nat) : headB f (k + 1) = headB f k ++ [byteN f k] := by simp [headB, List.range_succ]
theorem Tryz.infoS : (Tryz.prog.info? 9).map (fun i => (i.zero, i.size, i.bytes)) = some (some (.string ⟨#[]⟩), 1, 16) := by kernel_rfl
def keyC (es : List Ent) (k : Nat) : Array Value := ((List.range es.length).map fun i => if i < k then Value.string (es.getD i ⟨⟨#[]⟩, ⟨#[]⟩, false⟩).key else .string ⟨#[]⟩).toArray
theorem keyC_size (es : List Ent) (k : Nat) : (keyC es k).size = es.length := by simp [keyC]
theorem keyC_set (es : List Ent) (k : Nat) (e : Ent) (h : es[k]? = some e) : (keyC es k).setIfInBounds k (.string e.key) = keyC es (k + 1) := by
  apply Array.ext'
  apply List.ext_getElem?
  intro i
  have hk : k < es.length := (List.getElem?_eq_some_iff.1 h).1
  simp only [keyC, Array.toList_setIfInBounds, List.getElem?_set, List.length_map, List.length_range, List.getElem?_map]
  by_cases hi : k = i
  · subst hi
    rw [if_pos rfl, if_pos hk, List.getElem?_range hk]
    simp [List.getD_eq_getElem?_getD, h]
  · rw [if_neg hi]
    by_cases hl : i < es.length
    · rw [List.getElem?_range hl]
      simp only [Option.map_some, Option.some.injEq]
      by_cases h1 : i < k
      · rw [if_pos h1, if_pos (by omega)]
      · rw [if_neg h1, if_neg (by omega)]
    · rw [List.getElem?_eq_none (by simpa using hl)]; rfl
theorem keyC_txts {w : World} {es : List Ent} {g : Nat} {t : TypeId} (h : Blk w g (keyC es es.length) t) : TxtsAt w (some ⟨g, 0, none⟩) (keysE es) := fun _ => by
  refine ⟨g, 0, rfl, fun i s hs => ?_⟩
  rw [Nat.zero_add, h.cell]
  unfold keysE at hs
  rw [List.getElem?_map, Option.map_eq_some_iff] at hs
  obtain ⟨e, he, rfl⟩ := hs
  have hi : i < es.length := (List.getElem?_eq_some_iff.1 he).1
  rw [List.getElem?_eq_getElem hi] at he
  simp at he
  subst he
  simp [keyC, hi]
theorem byteN_int (f k : Nat) : (f : Int) / 2 ^ (8 * k) % 256 = ((byteN f k).toNat : Int) := by
  have hp : (2 : Int) ^ (8 * k) = ((256 ^ k : Nat) : Int) := by rw [Int.pow_mul]; simp
  rw [hp]
  unfold byteN
  simp
theorem made_keys (es : List Ent) : madeCells #[.string ⟨#[]⟩] es.length = keyC es 0 := by
  apply Array.ext'
  simp only [madeCells, keyC]
  apply List.ext_getElem?
  intro i
  by_cases hi : i < es.length
  · simp [hi, Nat.mod_one]
  · simp [hi]

set_option maxRecDepth 20000 in
set_option maxHeartbeats 2000000 in
theorem head_any (ao : Option Addr) (cap : Nat) (es : List Ent) (w : World) (hl : es.length ≤ 14) (hks : ∀ e ∈ es, e.key.size ≤ 8) (hes : EntsAt w ao es) :
    Calls Tryz.prog 169 #[.slice ao es.length cap] w fun e w' => e = .returned (.string (txtM (headB (filterN (keysE es)) 8))) ∧ Ext w w' := by
  have hmk := run_make_row' (P := Tryz.prog) 22 9 (.string ⟨#[]⟩) 16 Tryz.underlying22 Tryz.infoS rfl .i64 .i64 es.length (by omega) (by omega)
  rw [made_keys] at hmk
  go_enter Tryz.func169, Tryz.ntmps169
  go_wp2_with fail
  have hB0 : Blk (w.alloc (.cells (keyC es 0) 9)) w.heap.size (keyC es 0) 9 := Blk.new _ _ _
  clear hmk
  go_loopw [14] (fun i wr => ∃ k : Nat, k ≤ es.length ∧ i = .int .i64 k ∧ Blk wr w.heap.size (keyC es k) 9 ∧ Ext w wr) (fun i _ => es.length - (intOf i).toNat)
  case atStart => exact ⟨0, Nat.zero_le _, rfl, hB0, (Ext.refl w).alloc _⟩
  case round =>
    clear hB0
    obtain ⟨k, hk, rfl, hB, hx⟩ := hrel
    by_cases hlt : k < es.length
    · obtain ⟨b, off, ek, ev, eg, rfl, he, h1, h2, h3⟩ := hes.get hlt
      have g1 := hx.cell h1
      have g2 := hx.cell h2
      have g3 := hx.cell h3
      have hBl := hB.lt
      have hbl : b < wr.heap.size := by
        rcases Nat.lt_or_ge b wr.heap.size with h' | h'
        · exact h'
        · simp [World.cell?, Array.getElem?_eq_none h'] at g1
      have HS : Hid ((keyC es k).setIfInBounds k (.string ek) = keyC es (k + 1)) := keyC_set es k _ he
      have c0 : wr.cell? ⟨w.heap.size, k, none⟩ = (keyC es k)[k]? := hB.cell k
      rw [Array.getElem?_eq_getElem (by rw [keyC_size]; exact hlt)] at c0
      have f0 := hB.free k
      generalize (keyC es k)[k]'(by rw [keyC_size]; exact hlt) = z0 at *
      have HB : Hid (Blk wr w.heap.size (keyC es k) 9) := hB
      clear hB h1 h2 h3 he
      go_wp2_with fail
      go_roundw
      case rel => exact ⟨k + 1, by omega, by go_num, by rw [← HS.out]; exact (HB.out.set k _).alloc _, (hx.set (Nat.le_refl _) _).alloc _⟩
      case measure => simp [intOf]; omega
    · have hkl : k = es.length := by omega
      subst hkl
      have HO : Hid (∀ W, Ext wr W → Calls Tryz.prog 180 #[.slice (some ⟨w.heap.size, 0, none⟩) es.length es.length] W fun e w' => e = .returned (.int .u64 (filterN (keysE es) : Int)) ∧ Ext W w') := fun W hW => by
        have := of_any (some ⟨w.heap.size, 0, none⟩) es.length (keysE es) W (by simp [keysE]; omega) (fun t ht => by
          unfold keysE at ht; rw [List.mem_map] at ht; obtain ⟨e, he, rfl⟩ := ht; have := hks e he; omega) (keyC_txts (Blk.ext hW hB))
        rw [show (keysE es).length = es.length by simp [keysE]] at this
        refine this.mono ?_
        rintro e w' ⟨rfl, q, rfl⟩
        exact ⟨rfl, (Ext.refl W).drewN q⟩
      have hf64 := filterN_lt (keysE es)
      obtain ⟨f, hfe⟩ : ∃ f, filterN (keysE es) = f := ⟨_, rfl⟩
      rw [hfe] at HO hf64
      have HFN : Hid (filterN (keysE es) = f) := hfe
      clear hfe
      go_wp2_with (go_at_call 180; refine (HO.out _ (Ext.refl _)).mono ?_; rintro e w2 ⟨rfl, hx2⟩)
      have hL0 : BL w (w2.alloc (.cells #[.int .u8 70] 5)) (.slice (some ⟨w2.heap.size, 0, none⟩) 1 1) (headB f 0) := bl_new (hx.trans hx2) [70] (by simp)
      clear HO hB hx2 hx hks
      generalize w2.alloc (.cells #[.int .u8 70] 5) = w3 at *
      generalize w2.heap.size = g0 at *
      go_loopw [7, 28] (fun v i wr => ∃ k g cp : Nat, k ≤ 8 ∧ i = .int .i64 k ∧ v = .slice (some ⟨g, 0, none⟩) (1 + k) cp ∧ BL w wr (.slice (some ⟨g, 0, none⟩) (1 + k) cp) (headB f k)) (fun _ i _ => 8 - (intOf i).toNat)
      case atStart => exact ⟨0, g0, 1, by omega, rfl, rfl, hL0⟩
      case round =>
        clear hL0
        obtain ⟨k, g, cp, hk, rfl, rfl, hL⟩ := hrel
        have hzl : (headB f k).length = 1 + k := by simp [headB]; omega
        by_cases hlt : k < 8
        · have HS : Hid (headB f (k + 1) = headB f k ++ [byteN f k]) := headB_succ f k
          generalize headB f k = z at *
          go_wp2_with (at_builtin; refine wpList_app_byte rfl _ _ rfl w (.slice (some ⟨g, 0, none⟩) (1 + k) cp) z rfl ?c1 wr.heap.size (byteN f k) rfl ?c2 ?c3 ?_)
          case c1 => exact hL.alloc _
          case c2 => rw [byteN_int f k]; exact Blk.new _ _ _
          case c3 => omega
          intro g2 cp2 w6 hL6 hgr hat hlt6
          clear hL hgr hat
          go_wp2
          go_roundw
          case rel => exact ⟨k + 1, g2, cp2, by omega, by go_num, rfl, by rw [HS.out]; exact hL6⟩
          case measure => simp [intOf]; omega
        · have hk8 : k = 8 := by omega
          subst hk8
          have hcv := (hL.conv (by intro e; rw [e] at hzl; simp at hzl)).2 g cp (by rw [hzl])
          rw [hzl] at hcv
          have HX : Hid (Ext w wr) := hL.ext
          clear hL hzl
          go_wp2
          go_ret
          exact ⟨by rw [HFN.out]; rfl, HX.out⟩
end Go.Proofs.YtkibgflbidkalaaGreatDoor

/- Tables: an entry of a page is found by halves. -/
namespace Go.Proofs.YtkibgflbidkalaaGreatDoor
open Go.RowKit Go.WideShapes
attribute [local go_sem ↓] Go.wp_at_zero Go.wp_at_succ

def geK (es : List Ent) (key : ByteArray) (i : Nat) : Bool := match es[i]? with
  | none => true
  | some e => !Op.bytesLess e.key.toList key.toList
structure Clo (w : World) (lb kb : Nat) (es : List Ent) (key : ByteArray) : Prop where
  l : ∃ ao cap, Blk w lb #[.slice ao es.length cap] 31 ∧ EntsAt w ao es
  k : Blk w kb #[.string key] 9
theorem Clo.ext {w w' : World} {lb kb : Nat} {es : List Ent} {key : ByteArray} (h : Clo w lb kb es key) (hx : Ext w w') : Clo w' lb kb es key := by
  obtain ⟨ao, cap, h1, h2⟩ := h.l
  exact ⟨⟨ao, cap, Blk.ext hx h1, h2.ext hx⟩, Blk.ext hx h.k⟩
set_option maxRecDepth 20000 in
set_option maxHeartbeats 1000000 in
theorem get1_any (lb kb i : Nat) (es : List Ent) (key : ByteArray) (w : World) (h : Clo w lb kb es key) (hi : i < es.length) :
    Calls Tryz.prog 182 #[.int .i64 (i : Int), .pointer (some ⟨lb, 0, none⟩), .pointer (some ⟨kb, 0, none⟩)] w fun e w' => e = .returned (.bool (geK es key i)) ∧ Ext w w' := by
  obtain ⟨ao, cap, h1, h2⟩ := h.l
  obtain ⟨b, off, ek, ev, eg, rfl, he, g1, g2, g3⟩ := h2.get hi
  have c1 : w.cell? ⟨lb, 0, none⟩ = some (.slice (some ⟨b, off, none⟩) es.length cap) := h1.cell 0
  have c2 : w.cell? ⟨kb, 0, none⟩ = some (.string key) := h.k.cell 0
  have hlb := h1.lt
  have hkb := h.k.lt
  have HK : Hid (geK es key i = (!Op.bytesLess ek.toList key.toList)) := by unfold geK Hid; rw [he]
  clear he h1 h2 h g2 g3
  go_enter Tryz.func182, Tryz.ntmps182
  go_wp2_with fail
  go_quiet (fail)
  go_wp2_with fail
  go_ret
  exact ⟨by rw [HK.out]; rfl, (Ext.refl w).drewN _⟩
structure From (p : Nat → Bool) (n r : Nat) : Prop where
  le : r ≤ n
  lo : ∀ i, i < r → p i = false
  hi : ∀ i, r ≤ i → i < n → p i = true
set_option maxRecDepth 20000 in
set_option maxHeartbeats 1000000 in
theorem search_any (lb kb : Nat) (es : List Ent) (key : ByteArray) (w : World) (h : Clo w lb kb es key) (hl : es.length ≤ 1000) (hm : ∀ i j, i ≤ j → j < es.length → geK es key i = true → geK es key j = true) :
    Calls Tryz.prog 139 #[.int .i64 (es.length : Int), .func (.func 182) #[] #[.pointer (some ⟨lb, 0, none⟩), .pointer (some ⟨kb, 0, none⟩)]] w fun e w' => (∃ r : Nat, e = .returned (.int .i64 (r : Int)) ∧ From (geK es key) es.length r) ∧ Ext w w' := by
  go_enter Tryz.func139, Tryz.ntmps139
  go_wp2_with fail
  go_loopw [5, 6] (fun a c wr => ∃ i j : Nat, a = .int .i64 i ∧ c = .int .i64 j ∧ i ≤ j ∧ j ≤ es.length ∧ (∀ t, t < i → geK es key t = false) ∧ (∀ t, j ≤ t → t < es.length → geK es key t = true) ∧ Ext w wr) (fun a c _ => (intOf c).toNat - (intOf a).toNat)
  case atStart => exact ⟨0, es.length, rfl, rfl, Nat.zero_le _, Nat.le_refl _, fun t ht => by omega, fun t h1 h2 => by omega, Ext.refl _⟩
  case round =>
    obtain ⟨i, j, rfl, rfl, hij, hj, hlo, hhi, hx⟩ := hrel
    by_cases hlt : i < j
    · obtain ⟨q, hq⟩ : ∃ q : Nat, q = (i + j) / 2 := ⟨_, rfl⟩
      have hq1 : i ≤ q := by omega
      have hq2 : q < j := by omega
      have hqI : ((i : Int) + (j : Int)) / 2 = (q : Int) := by omega
      have HC : Hid (Calls Tryz.prog 182 #[.int .i64 (q : Int), .pointer (some ⟨lb, 0, none⟩), .pointer (some ⟨kb, 0, none⟩)] wr fun e w' => e = .returned (.bool (geK es key q)) ∧ Ext wr w') := get1_any lb kb q es key wr (h.ext hx) (by omega)
      have HLO : Hid (∀ t, t < i → geK es key t = false) := hlo
      have HHI : Hid (∀ t, j ≤ t → t < es.length → geK es key t = true) := hhi
      have HM : Hid (∀ i j, i ≤ j → j < es.length → geK es key i = true → geK es key j = true) := hm
      clear hlo hhi hm hq
      cases hp : geK es key q with
      | true =>
        rw [hp] at HC
        go_wp2_with (go_at_call 182; refine HC.out.mono ?_; rintro e w2 ⟨rfl, hx2⟩)
        go_roundw
        case rel => exact ⟨i, q, rfl, rfl, hq1, by omega, HLO.out, fun t h1 h2 => HM.out q t h1 h2 hp, hx.trans hx2⟩
        case measure => simp [intOf]; omega
      | false =>
        rw [hp] at HC
        go_wp2_with (go_at_call 182; refine HC.out.mono ?_; rintro e w2 ⟨rfl, hx2⟩)
        go_roundw
        case rel =>
          have hlo2 : ∀ t, t < q + 1 → geK es key t = false := fun t ht => by
            cases ht' : geK es key t with
            | false => rfl
            | true =>
              have := HM.out t q (by omega) (by omega) ht'
              rw [hp] at this
              cases this
          exact ⟨q + 1, j, by go_num, rfl, by omega, hj, hlo2, HHI.out, hx.trans hx2⟩
        case measure => simp [intOf]; omega
    · have hij' : i = j := by omega
      subst hij'
      have HF : Hid (From (geK es key) es.length i) := ⟨hj, hlo, hhi⟩
      clear hlo hhi hm
      go_wp2_with fail
      go_ret
      exact ⟨⟨i, rfl, HF.out⟩, hx⟩
end Go.Proofs.YtkibgflbidkalaaGreatDoor

/- Tables: entries, some at a time: slices.Chunk. -/
namespace Go.Proofs.YtkibgflbidkalaaGreatDoor
open Go.RowKit Go.WideShapes Go.Shelf
attribute [local go_sem] Oper.semAt_some

def partE (n : Nat) (es : List Ent) (k : Nat) : List Ent := (es.drop (k * n)).take n
def partL (n len k : Nat) : Nat := min n (len - k * n)
def partsN (n len : Nat) : Nat := (len + n - 1) / n
def partV (ao : Option Addr) (n len k : Nat) : Value := sliced ao (k * n) (k * n + partL n len k) (k * n + partL n len k) 3
theorem partE_len (n : Nat) (es : List Ent) (k : Nat) : (partE n es k).length = partL n es.length k := by simp [partE, partL]
theorem partV_at {w : World} {ao : Option Addr} {es : List Ent} (h : EntsAt w ao es) (n k : Nat) : ∃ ad, partV ao n es.length k = .slice ad (partE n es k).length (partE n es k).length ∧ EntsAt w ad (partE n es k) := by
  refine ⟨_, by rw [partE_len]; unfold partV sliced; rw [Nat.add_sub_cancel_left], fun hne => ?_⟩
  have hl : (partE n es k).length ≠ 0 := fun e => hne (List.eq_nil_of_length_eq_zero e)
  rw [partE_len] at hl
  obtain ⟨b, off, rfl, hh⟩ := h (by intro e; subst e; simp [partL] at hl)
  refine ⟨b, off + k * n * 3, ?_, fun i e he => ?_⟩
  · rw [if_neg (by omega)]
    simp only [Option.map_some, Addr.add]
    split
    · rename_i h0; rw [h0]; simp
    · rfl
  · have hi : es[k * n + i]? = some e := by
      unfold partE at he
      rw [List.getElem?_take] at he
      split at he
      · rw [List.getElem?_drop] at he; exact he
      · cases he
    have := hh (k * n + i) e hi
    rw [show off + (k * n + i) * 3 = off + k * n * 3 + i * 3 by omega] at this
    exact this
structure KeepB (sb nb : Nat) (W W' : World) : Prop where
  s : ∀ v t, Blk W sb #[v] t → Blk W' sb #[v] t
  n : ∀ v t, Blk W nb #[v] t → Blk W' nb #[v] t
theorem KeepB.refl (sb nb : Nat) (W : World) : KeepB sb nb W W := ⟨fun _ _ h => h, fun _ _ h => h⟩
theorem KeepB.trans {sb nb : Nat} {A B C : World} (h : KeepB sb nb A B) (k : KeepB sb nb B C) : KeepB sb nb A C := ⟨fun v t x => k.s v t (h.s v t x), fun v t x => k.n v t (h.n v t x)⟩
theorem Blk.putObj {W : World} {b l : Nat} {cs : Array Value} {t : TypeId} {o : Obj} (o' : Obj) (h : Blk W b cs t) (hl : W.heap[l]? = some o) (hc : o.isCells = false) : Blk (W.putObj l o') b cs t := by
  constructor
  rw [World.putObj_heap_other (fun e => by subst e; rw [h.blk] at hl; cases hl; cases hc)]
  exact h.blk
theorem KeepB.put {sb nb : Nat} {W : World} {l : Nat} {o : Obj} (o' : Obj) (hl : W.heap[l]? = some o) (hc : o.isCells = false) : KeepB sb nb W (W.putObj l o') := ⟨fun _ _ h => h.putObj o' hl hc, fun _ _ h => h.putObj o' hl hc⟩
theorem run_from (W : World) (ao : Option Addr) (len cap i : Nat) (hi : i ≤ len) : (Instr.slice 31 (.slice ao len cap) (some (.int .i64 (i : Int))) none none).run Tryz.prog W = .ok (.slice (if cap = i then ao else ao.map (·.add (i * 3))) (len - i) (cap - i)) W := by
  have hu : Tryz.prog.underlying 31 = some (.slice (Tryz.prog.elem 31)) := by kernel_rfl
  have hz : (sizeOf (Tryz.prog.elem 31)).run Tryz.prog W = .ok 3 W := by kernel_rfl
  rw [run_slice_l W 31 ao len cap hu .i64 (i : Int) (by omega) (by omega), hz]
  simp only [Result.andThen, sliced, Int.toNat_natCast]
theorem run_part (W : World) (ao : Option Addr) (len cap i p : Nat) (hi : i + p ≤ cap) : (Instr.slice 31 (.slice ao len cap) (some (.int .i64 (i : Int))) (some (.int .i64 ((i : Int) + (p : Int)))) (some (.int .i64 ((i : Int) + (p : Int))))).run Tryz.prog W = .ok (sliced ao i (i + p) (i + p) 3) W := by
  have hu : Tryz.prog.underlying 31 = some (.slice (Tryz.prog.elem 31)) := by kernel_rfl
  have hz : (sizeOf (Tryz.prog.elem 31)).run Tryz.prog W = .ok 3 W := by kernel_rfl
  have e : (i : Int) + (p : Int) = ((i + p : Nat) : Int) := by omega
  rw [e, run_slice_lhm W 31 ao len cap hu .i64 .i64 .i64 (i : Int) ((i + p : Nat) : Int) ((i + p : Nat) : Int) (by omega) (by omega) (by omega) (by omega), hz]
  simp only [Result.andThen, Int.toNat_natCast]
theorem grown_drewN' (w : World) (n : Nat) (row : Option Nat) : w.grownBy (w.drewN n) row := ⟨rfl, rfl, rfl, Nat.le_refl _, fun _ _ _ => rfl⟩
theorem parts_lt {n len k : Nat} (hn : 1 ≤ n) (h : k * n < len) : k < partsN n len := by
  unfold partsN
  rw [Nat.lt_div_iff_mul_lt (by omega)]
  omega
theorem parts_eq {n len k : Nat} (hn : 1 ≤ n) (h : len ≤ k * n) (h2 : k ≤ partsN n len) : k = partsN n len := by
  refine Nat.le_antisymm h2 ?_
  unfold partsN
  rw [Nat.div_le_iff_le_mul_add_pred (by omega), Nat.mul_comm]
  omega
set_option maxRecDepth 100000 in
set_option maxHeartbeats 2000000 in
theorem chunk1_in (m l sb nb n cap : Nat) (ao : Option Addr) (es : List Ent) (hn : 1 ≤ n) (hn' : n ≤ 100) (hl : es.length ≤ 1000) (hcap : es.length ≤ cap) (J Jx : List Nat → World → Prop)
    (hJd : ∀ pre W q, J pre W → J pre (W.drewN q))
    (hY : ∀ pre x W, J pre W → pre.length < partsN n es.length → x < partsN n es.length → YieldAt Fence.wide (m - 1) Tryz.prog l #[partV ao n es.length x] W fun e W' =>
      (e = .returned (.bool true) ∧ J (pre ++ [x]) W' ∧ KeepB sb nb W W') ∨ (e = .returned (.bool false) ∧ Jx (pre ++ [x]) W'))
    (W : World) (hs : Blk W sb #[.slice ao es.length cap] 31) (hb : Blk W nb #[.int .i64 (n : Int)] 3) (h0 : J [] W) :
    CallsIn Fence.wide m Tryz.prog 168 #[.func (.yield l) #[] #[], .pointer (some ⟨sb, 0, none⟩), .pointer (some ⟨nb, 0, none⟩)] W fun e W' => (∃ v, e = .returned v) ∧
      ((∃ ys, ys = List.range (partsN n es.length) ∧ J ys W') ∨ (∃ pre, (∃ k, k < partsN n es.length ∧ pre = List.range (k + 1)) ∧ Jx pre W')) := by
  generalize hlen : es.length = len at *
  refine callsIn_of_wp Tryz.func168 rfl trivial ?_ rfl
  simp only [Tryz.ntmps168, List.size_toArray, List.length_cons, List.length_nil, Nat.reduceAdd, Nat.reduceSub, Array.replicate_succ, Array.replicate_zero, List.push_toArray, List.append_toArray, List.nil_append, List.cons_append]
  gi_wp2
  gi_loopw [4] (fun i wr => ∃ k : Nat, k ≤ partsN n len ∧ i = .int .i64 ((k * n : Nat) : Int) ∧ J (List.range k) wr ∧ KeepB sb nb W wr)
    (fun i _ => len + n - (intOf i).toNat)
  case atStart => exact ⟨0, Nat.zero_le _, by simp, h0, KeepB.refl _ _ _⟩
  case round =>
    obtain ⟨k, hk, rfl, hJs, hkb⟩ := hrel
    have c1 : wr.cell? ⟨sb, 0, none⟩ = some (.slice ao len cap) := (hkb.s _ _ hs).cell 0
    have c2 : wr.cell? ⟨nb, 0, none⟩ = some (.int .i64 (n : Int)) := (hkb.n _ _ hb).cell 0
    by_cases hlt : k * n < len
    · obtain ⟨i, hi⟩ : ∃ i, i = k * n := ⟨_, rfl⟩
      rw [← hi] at hlt ⊢
      have HI : Hid (i = k * n) := hi
      obtain ⟨a1, cc1, r1⟩ : ∃ a1 cc1, ∀ W, (Instr.slice 31 (.slice ao len cap) (some (.int .i64 (i : Int))) none none).run Tryz.prog W = .ok (.slice a1 (len - i) cc1) W := ⟨_, _, fun W => run_from W ao len cap i (by omega)⟩
      obtain ⟨p, hp⟩ : ∃ p, p = partL n len k := ⟨_, rfl⟩
      have hp0 : p = min n (len - i) := by rw [hp, hi]; rfl
      have hp1 : min (n : Int) ((len - i : Nat) : Int) = (p : Int) := by omega
      have r2 := fun W => run_part W ao len cap i p (by omega)
      have hv : sliced ao i (i + p) (i + p) 3 = partV ao n len k := by rw [hi, hp]; rfl
      rw [hv] at r2
      have HY := fun q => hY (List.range k) k (wr.drewN q) (hJd _ _ q hJs) (by rw [List.length_range]; exact parts_lt hn (by omega)) (parts_lt hn (by omega))
      have HK : Hid (k * n < len) := by unfold Hid; omega
      have hip : (i : Int) + (n : Int) < 2000 := by omega
      clear hp hp0 hv hi hY hJs
      generalize partV ao n len k = pv at *
      gi_wp2
      rw [wpIn_wide]
      go_quiet (fail)
      obtain ⟨fn, tmps, assign, body, hy, hR⟩ := HY nq
      gi_wp2
      refine ⟨fun h => by simp [Fence.wide] at h, hR.mono ?_⟩
      rintro e W3 (⟨rfl, hJ3, hk3⟩ | ⟨rfl, hJx3⟩)
      · have c3 : W3.cell? ⟨nb, 0, none⟩ = some (.int .i64 (n : Int)) := (hk3.n _ _ ((hkb.n _ _ hb).drewN nq)).cell 0
        have HJ3 : Hid (J (List.range k ++ [k]) W3) := hJ3
        clear hJ3
        gi_wp2
        go_roundw
        case rel => exact ⟨k + 1, parts_lt hn HK.out, by rw [Nat.succ_mul, ← HI.out]; go_num, by rw [List.range_succ]; exact HJ3.out, (hkb.trans ⟨fun _ _ h => h.drewN nq, fun _ _ h => h.drewN nq⟩).trans hk3⟩
        case measure => simp [intOf]; omega
      · gi_wp2
        refine bodyPost_ret (results_none rfl _ _ _) rfl ?_
        exact ⟨⟨_, rfl⟩, .inr ⟨_, ⟨k, parts_lt hn HK.out, List.range_succ.symm⟩, hJx3⟩⟩
    · have hk2 : k = partsN n len := parts_eq hn (by omega) hk
      obtain ⟨i, hi⟩ : ∃ i, i = k * n := ⟨_, rfl⟩
      rw [← hi] at hlt ⊢
      clear hi
      gi_wp2
      go_end0
      exact ⟨⟨_, rfl⟩, .inl ⟨_, by rw [hk2], hJs⟩⟩
theorem chunk_stops (m sb nb n cap : Nat) (ao : Option Addr) (es : List Ent) (hn : 1 ≤ n) (hn' : n ≤ 100) (hl : es.length ≤ 1000) (hcap : es.length ≤ cap) (w : World)
    (hs : Blk w sb #[.slice ao es.length cap] 31) (hb : Blk w nb #[.int .i64 (n : Int)] 3) :
    SeqStopsK Fence.wide m Tryz.prog 168 #[.pointer (some ⟨sb, 0, none⟩), .pointer (some ⟨nb, 0, none⟩)] (fun x : Nat => #[partV ao n es.length x]) (KeepB sb nb)
      (fun ys => ys = List.range (partsN n es.length)) (fun pre => ∃ k, k < partsN n es.length ∧ pre = List.range (k + 1)) (partsN n es.length) w := fun l J Jx W hW hA _ hY h0 => by
  have hx : Ext w W := ⟨hW⟩
  exact (chunk1_in m l sb nb n cap ao es hn hn' hl hcap J Jx (fun pre W q h => hA pre W _ none h (grown_drewN' _ _ _) (fun r e => by cases e)) (fun pre x W hJ hl _ => hY pre x W hJ hl) W (Blk.ext hx hs) (Blk.ext hx hb) h0).mono
    fun e W' ⟨he, h⟩ => ⟨he, h⟩
def clipN (N x : Nat) : Nat := min x (N - 1)
theorem clip_lt {N x : Nat} (h : 0 < N) : clipN N x < N := by unfold clipN; omega
theorem clip_of {N x : Nat} (h : x < N) : clipN N x = x := by unfold clipN; omega
theorem chunk_stopsC (m sb nb n cap : Nat) (ao : Option Addr) (es : List Ent) (hn : 1 ≤ n) (hn' : n ≤ 100) (hl : es.length ≤ 1000) (hcap : es.length ≤ cap) (w : World)
    (hs : Blk w sb #[.slice ao es.length cap] 31) (hb : Blk w nb #[.int .i64 (n : Int)] 3) :
    SeqStopsK Fence.wide m Tryz.prog 168 #[.pointer (some ⟨sb, 0, none⟩), .pointer (some ⟨nb, 0, none⟩)] (fun x : Nat => #[partV ao n es.length (clipN (partsN n es.length) x)]) (KeepB sb nb)
      (fun ys => ys = List.range (partsN n es.length)) (fun pre => ∃ k, k < partsN n es.length ∧ pre = List.range (k + 1)) (partsN n es.length) w := fun l J Jx W hW hA _ hY h0 => by
  have hx : Ext w W := ⟨hW⟩
  refine (chunk1_in m l sb nb n cap ao es hn hn' hl hcap J Jx (fun pre W q h => hA pre W _ none h (grown_drewN' _ _ _) (fun r e => by cases e)) (fun pre x W hJ hl hx => ?_) W (Blk.ext hx hs) (Blk.ext hx hb) h0).mono
    fun e W' ⟨he, h⟩ => ⟨he, h⟩
  have := hY pre x W hJ hl
  dsimp only at this
  rw [clip_of hx] at this
  exact this
set_option maxRecDepth 20000 in
set_option maxHeartbeats 1000000 in
theorem chunk_any (ao : Option Addr) (len cap n : Nat) (w : World) (hn : 1 ≤ n) (hn' : n ≤ 100) :
    Calls Tryz.prog 143 #[.slice ao len cap, .int .i64 (n : Int)] w fun e w' => e = .returned (.func (.func 168) #[] #[.pointer (some ⟨w.heap.size, 0, none⟩), .pointer (some ⟨w.heap.size + 1, 0, none⟩)]) ∧
      w' = (w.alloc (.cells #[.slice ao len cap] 31)).alloc (.cells #[.int .i64 (n : Int)] 3) := by
  have hn1 : 1 ≤ (n : Int) := by omega
  go_enter Tryz.func143, Tryz.ntmps143
  go_wp2
  go_ret
  exact ⟨rfl, rfl⟩
end Go.Proofs.YtkibgflbidkalaaGreatDoor

/- Tables: Write. -/
namespace Go.Proofs.YtkibgflbidkalaaGreatDoor
open Go.RowKit Go.WideShapes Go.Shelf
attribute [local go_sem] Oper.semAt_some

theorem tick_left' (M : CM) : (tickM M).left ≤ M.left ∨ (tickM M).left ≤ 0 := by unfold tickM; split <;> simp <;> omega
theorem writeM_left' (M : CM) (b : Int) (s : ByteArray) {n : Int} (h : M.left ≤ n) (hn : 0 ≤ n) : (writeM M b s).left ≤ n := by
  unfold writeM
  repeat' split
  all_goals first | exact h | (show (tickM M).left ≤ n; have := tick_left' M; omega)
theorem eraseM_left' (M : CM) (b : Int) {n : Int} (h : M.left ≤ n) (hn : 0 ≤ n) : (eraseM M b).left ≤ n := by
  unfold eraseM
  repeat' split
  all_goals first | exact h | (show (tickM M).left ≤ n; have := tick_left' M; omega)
def goW (b : Int) : CM → List (List Ent) → CM × Int
  | M, [] => (M, 0)
  | M, p :: ps => if ¬ (bytesT p).2 = 0 then (M, (bytesT p).2) else if ¬ writeE M b (txt (bytesT p).1) = 0 then (writeM M b (txt (bytesT p).1), writeE M b (txt (bytesT p).1)) else goW b (writeM M b (txt (bytesT p).1)) ps
theorem goW_app (b : Int) : ∀ (ps : List (List Ent)) (M : CM) (qs : List (List Ent)), (goW b M ps).2 = 0 → goW b M (ps ++ qs) = goW b (goW b M ps).1 qs
  | [], M, qs, _ => rfl
  | p :: ps, M, qs, h => by
    simp only [goW, List.cons_append] at h ⊢
    split
    · rename_i hc; rw [if_pos hc] at h; exact absurd h hc
    · rename_i hc
      rw [if_neg hc] at h
      split
      · rename_i hd; rw [if_pos hd] at h; exact absurd h hd
      · rename_i hd; rw [if_neg hd] at h; exact goW_app b ps _ qs h
theorem goW_stop (b : Int) : ∀ (ps : List (List Ent)) (M : CM) (qs : List (List Ent)), ¬ (goW b M ps).2 = 0 → goW b M (ps ++ qs) = goW b M ps
  | [], M, qs, h => absurd rfl h
  | p :: ps, M, qs, h => by
    simp only [goW, List.cons_append] at h ⊢
    split
    · rfl
    · rename_i hc
      rw [if_neg hc] at h
      split
      · rfl
      · rename_i hd; rw [if_neg hd] at h; exact goW_stop b ps _ qs h
def partsE (n : Nat) (es : List Ent) : List (List Ent) := (List.range (partsN n es.length)).map (partE n es)
def headT (es : List Ent) : ByteArray := txtM (headB (filterN (keysE es)) 8)
def writeT (M : CM) (b : Int) (es : List Ent) : CM × Int :=
  if ¬ tabF es = 0 then (M, tabF es) else if ¬ eraseE M b = 0 then (eraseM M b, eraseE M b)
  else if ¬ writeE (eraseM M b) b (headT es) = 0 then (writeM (eraseM M b) b (headT es), writeE (eraseM M b) b (headT es))
  else goW b (writeM (eraseM M b) b (headT es)) (partsE 2 es)

theorem headT_size (es : List Ent) : (headT es).size = 9 := by
  show (headB (filterN (keysE es)) 8).toArray.size = 9
  simp [headB]
theorem Blk.kept {W W' : World} {b : Nat} {cs : Array Value} {t : TypeId} {row : Option Nat} (h : Blk W b cs t) (hg : W.grownBy W' row) (hr : ∀ r, row = some r → ∃ o : Obj, W.heap[r]? = some o ∧ o.isCells = false) : Blk W' b cs t := by
  have hn : some b ≠ row := by
    intro e
    obtain ⟨o, ho, hc⟩ := hr b e.symm
    rw [h.blk] at ho
    cases ho
    cases hc
  exact ⟨by rw [hg.block b h.lt hn]; exact h.blk⟩
theorem FellAt.kept {w w' : World} {cb : Nat} {p : Option Pend} {fv : Value} {row : Option Nat} (h : FellAt w cb p fv) (hg : w.grownBy w' row) (hr : ∀ r, row = some r → ∃ o : Obj, w.heap[r]? = some o ∧ o.isCells = false) : FellAt w' cb p fv := by
  match p, h with
  | none, h => exact h
  | some (.write b d), ⟨b1, b2, kb, pb, e, n1, n2, n3, n4, hb, hd, k1, k2, k3, k4⟩ => exact ⟨b1, b2, kb, pb, e, n1, n2, n3, n4, hb, hd, k1.kept hg hr, k2.kept hg hr, k3.kept hg hr, k4.kept hg hr⟩
  | some (.erase b), ⟨b1, b2, kb, e, n1, n2, n3, hb, k1, k2, k3⟩ => exact ⟨b1, b2, kb, e, n1, n2, n3, hb, k1.kept hg hr, k2.kept hg hr, k3.kept hg hr⟩
theorem ChipAt.kept {w w' : World} {cb : Nat} {M : CM} {row : Option Nat} (h : ChipAt w cb M) (hg : w.grownBy w' row) (hr : ∀ r, row = some r → ∃ o : Obj, w.heap[r]? = some o ∧ o.isCells = false) : ChipAt w' cb M := by
  obtain ⟨⟨cs, fv, h1, h2, h3⟩, hok⟩ := h
  exact ⟨⟨cs, fv, h1.kept hg hr, h2, h3.kept hg hr⟩, hok⟩
theorem ChipAt.lt {w : World} {cb : Nat} {M : CM} (h : ChipAt w cb M) : cb < w.heap.size := by
  obtain ⟨⟨cs, fv, h1, _, _⟩, _⟩ := h
  exact h1.lt
def plainV : Value → Bool
  | .func _ _ _ => false
  | .pointer _ => false
  | _ => true
theorem Blk.same {w : World} {b : Nat} {cs cs' : Array Value} {t t' : TypeId} (h : Blk w b cs t) (k : Blk w b cs' t') : cs = cs' := by
  have := h.blk; rw [k.blk] at this; cases this; rfl
theorem ChipAt.setBox {w : World} {cb b : Nat} {M : CM} {x : Value} {t : TypeId} (h : ChipAt w cb M) (hne : ¬ b = cb) (hr : Blk w b #[x] t) (hx : plainV x = true) (o : Nat) (v : Value) : ChipAt (w.setCell ⟨b, o, none⟩ v) cb M := by
  obtain ⟨⟨cs, fv, h1, h2, h3⟩, hok⟩ := h
  refine ⟨⟨cs, fv, h1.other (fun e => hne e.symm) v, h2, ?_⟩, hok⟩
  have no : ∀ {c : Nat} {y : Value} {t' : TypeId}, Blk w c #[y] t' → plainV y = false → c ≠ b := fun k hy e => by
    subst e
    have := k.same hr
    simp only [Array.mk.injEq, List.cons.injEq, and_true] at this
    rw [this, hx] at hy; cases hy
  revert h3
  generalize M.pend = p
  intro h3
  match p, h3 with
  | none, h3 => exact h3
  | some (.write b' d), ⟨b1, b2, kb, pb, e, n1, n2, n3, n4, hb, hd, k1, k2, k3, k4⟩ =>
    refine ⟨b1, b2, kb, pb, e, n1, n2, n3, n4, hb, hd, k1.other (no k1 rfl) v, k2.other (no k2 rfl) v, k3.other (no k3 rfl) v, k4.other (fun e => ?_) v⟩
    have e' : pb = b := e
    subst e'
    have := congrArg Array.size (k4.same hr)
    simp [pgCells, hd] at this
  | some (.erase b'), ⟨b1, b2, kb, e, n1, n2, n3, hb, k1, k2, k3⟩ => exact ⟨b1, b2, kb, e, n1, n2, n3, hb, k1.other (no k1 rfl) v, k2.other (no k2 rfl) v, k3.other (no k3 rfl) v⟩
theorem grow_kept {w W W' : World} {cb B : Nat} {row : Option Nat} (h : w.grownBy W (some cb)) (hB : w.heap.size ≤ B) (hg : W.grownBy W' row) (hr : ∀ r, row = some r → B ≤ r) : w.grownBy W' (some cb) :=
  ⟨hg.os.trans h.os, hg.tape.trans h.tape, hg.output.trans h.output, Nat.le_trans h.size hg.size, fun k hk hne => (hg.block k (Nat.lt_of_lt_of_le hk h.size) (fun e => by have := hr k e.symm; omega)).trans (h.block k hk hne)⟩
theorem EntsAt.grown {w w' : World} {ao : Option Addr} {es : List Ent} {cb : Nat} (h : EntsAt w ao es) (hg : w.grownBy w' (some cb)) (hne : ∀ a, ao = some a → ¬ a.block = cb) : EntsAt w' ao es := by
  intro h0
  obtain ⟨b, off, rfl, hc⟩ := h h0
  have hb : ¬ b = cb := hne _ rfl
  have hlt : b < w.heap.size := by
    obtain ⟨e, es', rfl⟩ := List.exists_cons_of_ne_nil h0
    have := (hc 0 e rfl).1
    rcases Nat.lt_or_ge b w.heap.size with h' | h'
    · exact h'
    · simp [World.cell?, Array.getElem?_eq_none h'] at this
  have hcell : ∀ o, w'.cell? ⟨b, o, none⟩ = w.cell? ⟨b, o, none⟩ := fun o => by
    unfold World.cell?
    rw [hg.block b hlt (by simpa using hb)]
  exact ⟨b, off, rfl, fun i e he => by rw [hcell, hcell, hcell]; exact hc i e he⟩
structure WrI (w : World) (cb : Nat) (b : Int) (es : List Ent) (M0 : CM) (pre : List Nat) (W : World) : Prop where
  ok : (goW b M0 (pre.map (partE 2 es))).2 = 0
  chip : ChipAt W cb (goW b M0 (pre.map (partE 2 es))).1
  left : (goW b M0 (pre.map (partE 2 es))).1.left ≤ 9223372036854775807
  grow : w.grownBy W (some cb)
  c : Blk W w.heap.size #[.pointer (some ⟨cb, 0, none⟩)] 41
  n : Blk W (w.heap.size + 1) #[.int .i64 b] 3
  r : Blk W (w.heap.size + 2) #[.nilIface] 25
structure WrX (w : World) (cb : Nat) (b : Int) (es : List Ent) (M0 : CM) (pre : List Nat) (W : World) : Prop where
  bad : ¬ (goW b M0 (pre.map (partE 2 es))).2 = 0
  chip : ChipAt W cb (goW b M0 (pre.map (partE 2 es))).1
  grow : w.grownBy W (some cb)
  r : Blk W (w.heap.size + 2) #[errV (goW b M0 (pre.map (partE 2 es))).2] 25
theorem WrI.own {w : World} {cb : Nat} {b : Int} {es : List Ent} {M0 : CM} {B : Nat} (hB : w.heap.size ≤ B) : OwnFrom B (WrI w cb b es M0) := fun _ _ _ _ h hg hr =>
  ⟨h.ok, h.chip.kept hg (fun r e => (hr r e).2), h.left, grow_kept h.grow hB hg (fun r e => (hr r e).1), h.c.kept hg (fun r e => (hr r e).2), h.n.kept hg (fun r e => (hr r e).2), h.r.kept hg (fun r e => (hr r e).2)⟩
theorem WrX.own {w : World} {cb : Nat} {b : Int} {es : List Ent} {M0 : CM} {B : Nat} (hB : w.heap.size ≤ B) (q : Prop) : OwnFrom B (fun pre W => q ∧ WrX w cb b es M0 pre W) := fun _ _ _ _ h hg hr =>
  ⟨h.1, h.2.bad, h.2.chip.kept hg (fun r e => (hr r e).2), grow_kept h.2.grow hB hg (fun r e => (hr r e).1), h.2.r.kept hg (fun r e => (hr r e).2)⟩
set_option maxRecDepth 100000 in
set_option maxHeartbeats 4000000 in
theorem tabWrite_main (cb : Nat) (b : Int) (ao : Option Addr) (cap : Nat) (es : List Ent) (M : CM) (w : World) (h : ChipAt w cb M) (hub : M.left ≤ 9223372036854775807) (hwr : WrOk M) (hl : es.length ≤ 14) (hcap : es.length ≤ cap) (hks : ∀ e ∈ es, e.key.size ≤ 8) (hes : EntsAt w ao es) (hne : ∀ a, ao = some a → ¬ a.block = cb)
    (hz : tabF es = 0) (he : eraseE M b = 0) (hw : writeE (eraseM M b) b (headT es) = 0) :
    Calls Tryz.prog 145 #[.pointer (some ⟨cb, 0, none⟩), .int .i64 b, .slice ao es.length cap] w fun e w' => e = .returned (errV (goW b (writeM (eraseM M b) b (headT es)) (partsE 2 es)).2) ∧ ChipAt w' cb (goW b (writeM (eraseM M b) b (headT es)) (partsE 2 es)).1 ∧ w.grownBy w' (some cb) := by
  have hclt := h.lt
  have HC : Hid (∀ W, Ext w W → Calls Tryz.prog 167 #[.slice ao es.length cap] W fun e w' => e = .returned .nilIface ∧ Ext W w') := fun W hx => by
    have := tabCheck_any ao cap es W (by omega) (hes.ext hx); rw [hz] at this; exact this
  have HE : Hid (∀ W, Ext w W → Calls Tryz.prog 24 #[.pointer (some ⟨cb, 0, none⟩), .int .i64 b] W fun e w' => e = .returned .nilIface ∧ ChipAt w' cb (eraseM M b) ∧ W.grownBy w' (some cb)) := fun W hx => by
    have := erase_any cb b M W (h.ext hx) hub hwr; rw [he] at this; exact this
  have HH : Hid (∀ W, w.grownBy W (some cb) → Calls Tryz.prog 169 #[.slice ao es.length cap] W fun e w' => e = .returned (.string (headT es)) ∧ Ext W w') := fun W hx => head_any ao cap es W hl hks (hes.grown hx hne)
  have HL1 : (eraseM M b).left ≤ 9223372036854775807 := eraseM_left' M b hub (by decide)
  have HW : Hid (∀ W, ChipAt W cb (eraseM M b) → Calls Tryz.prog 82 #[.pointer (some ⟨cb, 0, none⟩), .int .i64 b, .string (headT es)] W fun e w' => e = .returned .nilIface ∧ ChipAt w' cb (writeM (eraseM M b) b (headT es)) ∧ W.grownBy w' (some cb)) := fun W hc => by
    have := write_any cb b (headT es) (eraseM M b) W hc HL1 (by rw [headT_size]; decide); rw [hw] at this; exact this
  have HL2 : (writeM (eraseM M b) b (headT es)).left ≤ 9223372036854775807 := writeM_left' _ b _ HL1 (by decide)
  have HWW : Hid (∀ (M' : CM) (s : ByteArray) W, ChipAt W cb M' → M'.left ≤ 9223372036854775807 → s.size ≤ 9223372036854775807 → Calls Tryz.prog 82 #[.pointer (some ⟨cb, 0, none⟩), .int .i64 b, .string s] W fun e w' => e = .returned (errV (writeE M' b s)) ∧ ChipAt w' cb (writeM M' b s) ∧ W.grownBy w' (some cb)) := fun M' s W hc hl hs => write_any cb b s M' W hc hl hs
  clear hz he hw hub hwr h
  generalize headT es = T at *
  generalize writeM (eraseM M b) b T = M0 at *
  generalize eraseM M b = M1 at *
  refine callsIn_wide.1 (callsIn_of_wp_marks (n := 5) Tryz.func145 rfl trivial ?_ rfl)
  simp only [Tryz.ntmps145, List.size_toArray, List.length_cons, List.length_nil, Nat.reduceAdd, Nat.reduceSub, Array.replicate_succ, Array.replicate_zero, List.push_toArray, List.append_toArray, List.nil_append, List.cons_append]
  rw [wpIn_wide]
  have hx0 : Ext w (((w.alloc (.cells #[.pointer (some ⟨cb, 0, none⟩)] 41)).alloc (.cells #[.int .i64 b] 3)).alloc (.cells #[.nilIface] 25)) := (((Ext.refl w).alloc _).alloc _).alloc _
  have b3 : Blk (((w.alloc (.cells #[.pointer (some ⟨cb, 0, none⟩)] 41)).alloc (.cells #[.int .i64 b] 3)).alloc (.cells #[.nilIface] 25)) w.heap.size #[.pointer (some ⟨cb, 0, none⟩)] 41 := ((Blk.new w _ _).alloc _).alloc _
  have b4 : Blk (((w.alloc (.cells #[.pointer (some ⟨cb, 0, none⟩)] 41)).alloc (.cells #[.int .i64 b] 3)).alloc (.cells #[.nilIface] 25)) (w.heap.size + 1) #[.int .i64 b] 3 := (Blk.new' _ _ _ (by simp)).alloc _
  have b6 : Blk (((w.alloc (.cells #[.pointer (some ⟨cb, 0, none⟩)] 41)).alloc (.cells #[.int .i64 b] 3)).alloc (.cells #[.nilIface] 25)) (w.heap.size + 2) #[.nilIface] 25 := Blk.new' _ _ _ (by simp)
  have hcn : ¬ w.heap.size = cb := by omega
  have hcn1 : ¬ w.heap.size + 1 = cb := by omega
  have hcn2 : ¬ w.heap.size + 2 = cb := by omega
  go_wp2_with (first
    | (go_at_call 167; refine (HC.out _ hx0).mono ?_; rintro e w1 ⟨rfl, hx1⟩; have k3 := (Blk.ext hx1 b3).cell 0; have k4 := (Blk.ext hx1 b4).cell 0)
    | (go_at_call 24; refine (HE.out _ (hx0.trans hx1)).mono ?_; rintro e w2 ⟨rfl, hc2, hg2⟩))
  have q3 := (Blk.ext hx1 b3).grown hg2 hcn
  have q4 := (Blk.ext hx1 b4).grown hg2 hcn1
  have q6 := (Blk.ext hx1 b6).grown hg2 hcn2
  have hgw2 : w.grownBy w2 (some cb) := grow_trans (grow_ext (hx0.trans hx1) _) hg2
  clear b3 b4 b6 hx0 k3 k4 hg2 hx1
  have z3 := q3.cell 0
  have z4 := q4.cell 0
  have HHH : Hid (∀ W, Ext w2 W → Calls Tryz.prog 169 #[.slice ao es.length cap] W fun e w' => e = .returned (.string T) ∧ Ext W w') := fun W hx => HH.out W (grow_trans hgw2 (grow_ext hx _))
  go_region_held3 (fun w' => w'.cell? ⟨w.heap.size, 0, none⟩ = some (.pointer (some ⟨cb, 0, none⟩)) ∧ w'.cell? ⟨w.heap.size + 1, 0, none⟩ = some (.int .i64 b))
    (first | (refine ⟨?_, ?_⟩; (simpa using z3); (simpa using z4); done) | (refine ⟨?_, ?_⟩; (exact (q3.drew.ext hx3).cell 0); (exact (q4.drew.ext hx3).cell 0); done) | (refine ⟨?_, ?_⟩; (exact ((q3.drew.ext hx3).grown hg4 hcn).cell 0); (exact ((q4.drew.ext hx3).grown hg4 hcn1).cell 0); done))
    (first | (go_at_call 169; refine (HHH.out _ (Ext.refl _).drew).mono ?_; rintro e w3 ⟨rfl, hx3⟩) | (go_at_call 82; refine (HW.out _ (hc2.ext ((Ext.refl w2).drew.trans hx3))).mono ?_; rintro e w4 ⟨rfl, hc4, hg4⟩))
  have p3 := (q3.drew.ext hx3).grown hg4 hcn
  have p4 := (q4.drew.ext hx3).grown hg4 hcn1
  have p6 := (q6.drew.ext hx3).grown hg4 hcn2
  have hgw4 : w.grownBy w4 (some cb) := grow_trans hgw2 (grow_trans (grow_ext ((Ext.refl w2).drew.trans hx3) _) hg4)
  have HCH : Hid (Calls Tryz.prog 143 #[.slice ao es.length cap, .int .i64 2] w4 fun e w' => e = .returned (.func (.func 168) #[] #[.pointer (some ⟨w4.heap.size, 0, none⟩), .pointer (some ⟨w4.heap.size + 1, 0, none⟩)]) ∧
      Blk w' w4.heap.size #[.slice ao es.length cap] 31 ∧ Blk w' (w4.heap.size + 1) #[.int .i64 ((2 : Nat) : Int)] 3 ∧ Ext w4 w' ∧ w'.heap.size = w4.heap.size + 2) := (chunk_any ao es.length cap 2 w4 (by decide) (by decide)).mono fun e w' ⟨he, hw⟩ => by
    subst hw
    exact ⟨he, (Blk.new _ _ _).alloc _, Blk.new' _ _ _ (by simp), ((Ext.refl _).alloc _).alloc _, by simp⟩
  have hcl4 := hc4.lt
  have hs4 : w.heap.size + 2 < w4.heap.size := p6.lt
  clear q3 q4 q6 z3 z4 hx3 hg4 hgw2 hc2 HH HHH HW HE HC HL1
  go_wp2_with (go_at_call 143; refine HCH.out.mono ?_; rintro e w5 ⟨rfl, hsb, hnb, hx5, hs5⟩)
  have hB5 : w.heap.size ≤ w5.heap.size := by omega
  have I0 : WrI w cb b es M0 [] w5 := ⟨rfl, hc4.ext hx5, HL2, grow_trans hgw4 (grow_ext hx5 _), p3.ext hx5, p4.ext hx5, p6.ext hx5⟩
  have hse : ∀ W, w.grownBy W (some cb) → EntsAt W ao es := fun W hg => hes.grown hg hne
  rw [← wpIn_wide (n := 5)]
  apply wpIn_rangeFunc_ownG (Kp := KeepB w4.heap.size (w4.heap.size + 1)) (encs := fun x : Nat => #[partV ao 2 es.length x]) rfl (by decide) (gf := 168) (lb := #[.pointer (some ⟨w4.heap.size, 0, none⟩), .pointer (some ⟨w4.heap.size + 1, 0, none⟩)]) rfl trivial (enters_of Tryz.func168 (by kernel_rfl) rfl)
    (chunk_stops 4 w4.heap.size (w4.heap.size + 1) 2 cap ao es (by decide) (by decide) (by omega) hcap w5 hsb hnb) KeepB.trans (fun W l o o' _ hl hc _ => KeepB.put o' hl hc) (Below.refl _ _) (fun _ => rfl)
    (WrI w cb b es M0) (fun c pre W => c = .ret ∧ WrX w cb b es M0 pre W) (WrI.own hB5) (fun c => WrX.own hB5 _) I0
  case hassign =>
    intro l x W K hK
    gi_wp2
    exact hK
  case hbody =>
    rintro l pre x W hi hlen
    obtain ⟨ad, hv, hea⟩ := partV_at (hse W hi.grow) 2 x
    rw [hv]
    have hG : goW b M0 ((pre ++ [x]).map (partE 2 es)) = goW b (goW b M0 (pre.map (partE 2 es))).1 [partE 2 es x] := by
      rw [List.map_append, goW_app b _ _ _ hi.ok]; rfl
    have hpl : (partE 2 es x).length ≤ 200 := by rw [partE_len]; unfold partL; omega
    have HB : Hid (∀ n, CallsIn (Fence.wide.inRound l) n Tryz.prog 96 #[.slice ad (partE 2 es x).length (partE 2 es x).length] W fun e w' => e = .returned (.tuple #[.string (txt (bytesT (partE 2 es x)).1), errV (bytesT (partE 2 es x)).2]) ∧ Ext W w') := fun n => (callsIn_wide.2 (bytes_any ad _ (partE 2 es x) W hpl hea)).inRound l
    have hbs : (txt (bytesT (partE 2 es x)).1).size ≤ 9223372036854775807 := by
      have : (bytesT (partE 2 es x)).1.length ≤ 64 := by
        unfold bytesT; split
        · simp
        · split
          · simp
          · rename_i h; exact Nat.le_of_not_lt h
      show (bytesT (partE 2 es x)).1.toArray.size ≤ _
      simp; omega
    have HI : Hid (WrI w cb b es M0 pre W) := hi
    have y3 := hi.c.cell 0
    have y4 := hi.n.cell 0
    have y6 := hi.r.cell 0
    have y6f := hi.r.free 0
    have hW6 : w.heap.size + 2 < W.heap.size := hi.r.lt
    have hleft := hi.left
    have hch := hi.chip
    have HWx : Hid (∀ n W1, Ext W W1 → CallsIn (Fence.wide.inRound l) n Tryz.prog 82 #[.pointer (some ⟨cb, 0, none⟩), .int .i64 b, .string (txt (bytesT (partE 2 es x)).1)] W1 fun e w' => e = .returned (errV (writeE (goW b M0 (pre.map (partE 2 es))).1 b (txt (bytesT (partE 2 es x)).1))) ∧ ChipAt w' cb (writeM (goW b M0 (pre.map (partE 2 es))).1 b (txt (bytesT (partE 2 es x)).1)) ∧ W1.grownBy w' (some cb)) :=
      fun n W1 hx => (callsIn_wide.2 (HWW.out _ _ W1 (hch.ext hx) hleft hbs)).inRound l
    have hpost : ∀ W1 v, Ext W W1 → KeepsFrom w5.heap.size W (W1.setCell ⟨w.heap.size + 2, 0, none⟩ v) := fun W1 v hx =>
      (KeepsFrom.of_grownBy (grow_ext hx none) (fun j e => by cases e)).trans (KeepsFrom.of_grownBy (grow_set W1 _ 0 v) (fun j e => by cases e; omega))
    have hpost2 : ∀ W1 W2, Ext W W1 → W1.grownBy W2 (some cb) → KeepsFrom w5.heap.size W W2 := fun W1 W2 hx hg =>
      (KeepsFrom.of_grownBy (grow_ext hx none) (fun j e => by cases e)).trans (KeepsFrom.of_grownBy hg (fun j e => by cases e; omega))
    by_cases hb0 : (bytesT (partE 2 es x)).2 = 0
    · have HB0 : Hid (∀ n, CallsIn (Fence.wide.inRound l) n Tryz.prog 96 #[.slice ad (partE 2 es x).length (partE 2 es x).length] W fun e w' => e = .returned (.tuple #[.string (txt (bytesT (partE 2 es x)).1), .nilIface]) ∧ Ext W w') := fun n => by
        have := HB.out n; unfold errV at this; rw [if_pos hb0] at this; exact this
      by_cases hw0 : writeE (goW b M0 (pre.map (partE 2 es))).1 b (txt (bytesT (partE 2 es x)).1) = 0
      · have HG : Hid (goW b M0 ((pre ++ [x]).map (partE 2 es)) = (writeM (goW b M0 (pre.map (partE 2 es))).1 b (txt (bytesT (partE 2 es x)).1), 0)) := by
          unfold Hid; rw [hG]; simp [goW, hb0, hw0]
        have HW0 : Hid (∀ n W1, Ext W W1 → CallsIn (Fence.wide.inRound l) n Tryz.prog 82 #[.pointer (some ⟨cb, 0, none⟩), .int .i64 b, .string (txt (bytesT (partE 2 es x)).1)] W1 fun e w' => e = .returned .nilIface ∧ ChipAt w' cb (writeM (goW b M0 (pre.map (partE 2 es))).1 b (txt (bytesT (partE 2 es x)).1)) ∧ W1.grownBy w' (some cb)) := fun n W1 hx => by
          have := HWx.out n W1 hx; rw [hw0] at this; exact this
        have HL : Hid ((writeM (goW b M0 (pre.map (partE 2 es))).1 b (txt (bytesT (partE 2 es x)).1)).left ≤ 9223372036854775807) := writeM_left' _ b _ hleft (by decide)
        clear hb0 hw0 hG HB HWx hi hleft hch hea hse I0 hv
        generalize (goW b M0 (pre.map (partE 2 es))).1 = M' at *
        generalize (partE 2 es x).length = pl at *
        generalize txt (bytesT (partE 2 es x)).1 = tx at *
        gi_wp2_with (first
          | (refine ⟨trivial, ?_⟩; gi_at_call 96; refine (HB0.out _).mono ?_; rintro e W1 ⟨rfl, hx1⟩; have v3 := hx1.cell y3; have v4 := hx1.cell y4)
          | (refine ⟨trivial, ?_⟩; gi_at_call 82; refine (HW0.out _ _ hx1).mono ?_; rintro e W2 ⟨rfl, hc9, hg9⟩))
        have hi := HI.out
        refine ⟨hpost2 _ _ hx1 hg9, ⟨fun v t k => (k.ext hx1).grown hg9 (by omega), fun v t k => (k.ext hx1).grown hg9 (by omega)⟩, ?_⟩
        exact ⟨by rw [HG.out], by rw [HG.out]; exact hc9, by rw [HG.out]; exact HL.out, grow_trans hi.grow (grow_trans (grow_ext hx1 _) hg9), (hi.c.ext hx1).grown hg9 hcn, (hi.n.ext hx1).grown hg9 hcn1, (hi.r.ext hx1).grown hg9 hcn2⟩
      · have HG : Hid (goW b M0 ((pre ++ [x]).map (partE 2 es)) = (writeM (goW b M0 (pre.map (partE 2 es))).1 b (txt (bytesT (partE 2 es x)).1), writeE (goW b M0 (pre.map (partE 2 es))).1 b (txt (bytesT (partE 2 es x)).1))) := by
          unfold Hid; rw [hG]; simp [goW, hb0, hw0]
        have HW0 : Hid (∀ n W1, Ext W W1 → CallsIn (Fence.wide.inRound l) n Tryz.prog 82 #[.pointer (some ⟨cb, 0, none⟩), .int .i64 b, .string (txt (bytesT (partE 2 es x)).1)] W1 fun e w' => e = .returned (.iface 39 (.int .i64 (writeE (goW b M0 (pre.map (partE 2 es))).1 b (txt (bytesT (partE 2 es x)).1)))) ∧ ChipAt w' cb (writeM (goW b M0 (pre.map (partE 2 es))).1 b (txt (bytesT (partE 2 es x)).1)) ∧ W1.grownBy w' (some cb)) := fun n W1 hx => by
          have := HWx.out n W1 hx; unfold errV at this; rw [if_neg hw0] at this; exact this
        have HN : Hid (¬ writeE (goW b M0 (pre.map (partE 2 es))).1 b (txt (bytesT (partE 2 es x)).1) = 0) := hw0
        clear hb0 hw0 hG HB HWx hi hleft hch hea hse I0 hv
        generalize writeE (goW b M0 (pre.map (partE 2 es))).1 b (txt (bytesT (partE 2 es x)).1) = f at *
        generalize writeM (goW b M0 (pre.map (partE 2 es))).1 b (txt (bytesT (partE 2 es x)).1) = M' at *
        generalize (partE 2 es x).length = pl at *
        generalize txt (bytesT (partE 2 es x)).1 = tx at *
        gi_wp2_with (first
          | (refine ⟨trivial, ?_⟩; gi_at_call 96; refine (HB0.out _).mono ?_; rintro e W1 ⟨rfl, hx1⟩; have v3 := hx1.cell y3; have v4 := hx1.cell y4)
          | (refine ⟨trivial, ?_⟩; gi_at_call 82; refine (HW0.out _ _ hx1).mono ?_; rintro e W2 ⟨rfl, hc9, hg9⟩; have v6 := ((HI.out.r.ext hx1).grown hg9 hcn2).cell 0; have v6f := ((HI.out.r.ext hx1).grown hg9 hcn2).free 0))
        have hi := HI.out
        have b6 := (hi.r.ext hx1).grown hg9 hcn2
        refine ⟨(hpost2 _ _ hx1 hg9).trans (KeepsFrom.of_grownBy (grow_set W2 _ 0 _) (fun j e => by cases e; omega)), rfl, ?_⟩
        refine ⟨by rw [HG.out]; exact HN.out, ?_, ?_, ?_⟩
        · rw [HG.out]; exact hc9.setBox hcn2 b6 rfl 0 _
        · exact grow_kept (grow_trans hi.grow (grow_trans (grow_ext hx1 _) hg9)) (Nat.le_refl _) (grow_set W2 _ 0 _) (fun r e => by cases e; omega)
        · rw [HG.out]; unfold errV; rw [if_neg HN.out]; exact b6.set 0 _
    · have HB0 : Hid (∀ n, CallsIn (Fence.wide.inRound l) n Tryz.prog 96 #[.slice ad (partE 2 es x).length (partE 2 es x).length] W fun e w' => e = .returned (.tuple #[.string (txt (bytesT (partE 2 es x)).1), .iface 39 (.int .i64 (bytesT (partE 2 es x)).2)]) ∧ Ext W w') := fun n => by
        have := HB.out n; unfold errV at this; rw [if_neg hb0] at this; exact this
      have HG : Hid (goW b M0 ((pre ++ [x]).map (partE 2 es)) = ((goW b M0 (pre.map (partE 2 es))).1, (bytesT (partE 2 es x)).2)) := by
        unfold Hid; rw [hG]; simp [goW, hb0]
      have HN : Hid (¬ (bytesT (partE 2 es x)).2 = 0) := hb0
      clear hb0 hG HB HWx hi hleft hea hse I0 hv
      generalize (bytesT (partE 2 es x)).2 = f at *
      generalize (goW b M0 (pre.map (partE 2 es))).1 = M' at *
      generalize (partE 2 es x).length = pl at *
      generalize txt (bytesT (partE 2 es x)).1 = tx at *
      gi_wp2_with (first
        | (refine ⟨trivial, ?_⟩; gi_at_call 96; refine (HB0.out _).mono ?_; rintro e W1 ⟨rfl, hx1⟩; have v6 := (HI.out.r.ext hx1).cell 0; have v6f := (HI.out.r.ext hx1).free 0))
      have hi := HI.out
      refine ⟨hpost _ _ hx1, rfl, ?_⟩
      refine ⟨by rw [HG.out]; exact HN.out, ?_, ?_, ?_⟩
      · rw [HG.out]; exact (hch.ext hx1).setBox hcn2 (hi.r.ext hx1) rfl 0 _
      · exact grow_kept (grow_trans hi.grow (grow_ext hx1 _)) (Nat.le_refl _) (grow_set W1 _ 0 _) (fun r e => by cases e; omega)
      · rw [HG.out]; unfold errV; rw [if_neg HN.out]; exact (hi.r.ext hx1).set 0 _
  case hdone =>
    rintro D xs W hD rfl hi hK
    have y6 := hi.r.cell 0
    have y6f := hi.r.free 0
    have hK' := (KeepsOthers.setCell W ⟨w.heap.size + 2, 0, none⟩ .nilIface).same D _ hK rfl
    have HI : Hid (WrI w cb b es M0 (List.range (partsN 2 es.length)) W) := hi
    clear hi
    go_wp2
    refine ⟨by simp, .inl ⟨_, _, rfl, run_takeDeferred hK', ?_⟩⟩
    have hi := HI.out
    have b6 : Blk ((W.setCell ⟨w.heap.size + 2, 0, none⟩ .nilIface).putObj D (.deferred none)) (w.heap.size + 2) #[.nilIface] 25 := (hi.r.set 0 .nilIface).putObj _ hK' rfl
    have hc5 := b6.cell 0
    refine ⟨.nilIface, ?_, ?_, ?_, ?_⟩
    · simp [results, Tryz.results145, go_sem, hc5]
    · have := hi.ok
      show Ending.returned .nilIface = .returned (errV (goW b M0 (partsE 2 es)).2)
      rw [show (goW b M0 (partsE 2 es)).2 = 0 from this]; rfl
    · exact (hi.chip.setBox hcn2 hi.r rfl 0 _).kept (grownBy_putObj' _ _ _) (fun r e => by cases e; exact ⟨_, hK', rfl⟩)
    · exact grow_kept (grow_kept hi.grow (Nat.le_refl _) (grow_set W _ 0 _) (fun r e => by cases e; omega)) (Nat.le_refl _) (grownBy_putObj' _ _ _) (fun r e => by cases e; omega)
  case hstop =>
    rintro D c pre W hD ⟨k, hk, rfl⟩ ⟨rfl, hi⟩ hK
    have HI : Hid (WrX w cb b es M0 (List.range (k + 1)) W) := hi
    have hG : goW b M0 (partsE 2 es) = goW b M0 ((List.range (k + 1)).map (partE 2 es)) := by
      obtain ⟨q, hq⟩ : ∃ q, partsN 2 es.length = k + 1 + q := ⟨partsN 2 es.length - (k + 1), by omega⟩
      unfold partsE
      rw [hq, List.range_add, List.map_append]
      exact goW_stop b _ _ _ hi.bad
    have HG : Hid (goW b M0 (partsE 2 es) = goW b M0 ((List.range (k + 1)).map (partE 2 es))) := hG
    clear hi hG
    gi_wp2
    refine ⟨by simp, .inl ⟨_, _, rfl, run_takeDeferred hK, ?_⟩⟩
    have hi := HI.out
    have b6 : Blk (W.putObj D (.deferred none)) (w.heap.size + 2) #[errV (goW b M0 ((List.range (k + 1)).map (partE 2 es))).2] 25 := hi.r.putObj _ hK rfl
    have hc5 := b6.cell 0
    refine ⟨errV (goW b M0 ((List.range (k + 1)).map (partE 2 es))).2, ?_, ?_, ?_, ?_⟩
    · simp [results, Tryz.results145, go_sem, hc5]
    · rw [HG.out]
    · rw [HG.out]; exact hi.chip.kept (grownBy_putObj' _ _ _) (fun r e => by cases e; exact ⟨_, hK, rfl⟩)
    · exact grow_kept hi.grow (Nat.le_refl _) (grownBy_putObj' _ _ _) (fun r e => by cases e; omega)
end Go.Proofs.YtkibgflbidkalaaGreatDoor
