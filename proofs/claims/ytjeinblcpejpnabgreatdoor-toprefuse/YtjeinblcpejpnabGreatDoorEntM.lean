/- OpenA EntE EntF EntK EntC EntM. -/
import Derived.Test.YtjeinblcpejpnabGreatDoorActA
import Derived.WalkKit
import Derived.WalkSpells
import Derived.WalkLawsBesides
import Derived.Deep.QuietTactic
import Derived.BigQuiet
import Derived.Lib.Strings
import Derived.Lib.Walk
import Derived.Lib.BufferWrite
import Derived.Lib.UnsafeStr
import Derived.Laws.MakeOwn
import Derived.Lib.IndexBytes

/- Acts that came in, opened. -/
namespace Go.Proofs.YtjeinblcpejpnabGreatDoor
open Go.ChangeShapes Go.WideShapes Go.ChangeAt Go.RowKit Go.Deep
open Go.ChangeMaps (open_string shut_string)

theorem Tryz.cells41 : Tryz.prog.cellsOf 41 = 5 := by kernel_rfl
theorem Tryz.cells3 : Tryz.prog.cellsOf 3 = 1 := by kernel_rfl
theorem Tryz.cells37 : Tryz.prog.cellsOf 37 = 1 := by kernel_rfl
instance : Inhabited ActE := ⟨⟨⟨#[]⟩, ⟨#[]⟩, 0, 0, [], none, 0⟩⟩

section
variable {H : Type} {enc : TypeId × Value → H} {w : World} {base : Nat} {spare : Nat → Bool} {held : Bool}

theorem trod_struct5 {P : Program} {t : TypeId} {f0 f1 f2 f3 f4 : Field} {fuel : Nat} {cs : List Value} {x : DataW H × List MemPlace} (ht : P.underlying t = some (.struct #[f0, f1, f2, f3, f4])) (h : DataW.trod enc P w base spare held fuel t cs = some x) :
    ∃ y0 y1 y2 y3 y4 n, cs.length = P.cellsOf t ∧ DataW.trod enc P w base spare held n f0.type ((cs.drop f0.offset).take (P.cellsOf f0.type)) = some y0 ∧
      DataW.trod enc P w base spare held n f1.type ((cs.drop f1.offset).take (P.cellsOf f1.type)) = some y1 ∧ DataW.trod enc P w base spare held n f2.type ((cs.drop f2.offset).take (P.cellsOf f2.type)) = some y2 ∧
      DataW.trod enc P w base spare held n f3.type ((cs.drop f3.offset).take (P.cellsOf f3.type)) = some y3 ∧ DataW.trod enc P w base spare held n f4.type ((cs.drop f4.offset).take (P.cellsOf f4.type)) = some y4 := by
  obtain ⟨xs, n, _, rfl, hl, hlen, hf⟩ := DataW.trod_struct ht h
  match xs, hlen with
  | [y0, y1, y2, y3, y4], _ => exact ⟨y0, y1, y2, y3, y4, n, hl, by simpa using hf 0 f0 rfl, by simpa using hf 1 f1 rfl, by simpa using hf 2 f2 rfl, by simpa using hf 3 f3 rfl, by simpa using hf 4 f4 rfl⟩

set_option maxRecDepth 100000 in
/-- Five cells that read as an act. -/
theorem open_act {fuel : Nat} {cs : List Value} {x : DataW H × List MemPlace} (h : DataW.trod enc Tryz.prog w base spare held fuel 41 cs = some x) :
    ∃ e : ActE, cs = [.string e.kind, .string e.s, .int .i64 e.a, .int .i64 e.b, .slice e.ao e.es.length e.cap] ∧ ActOk w e := by
  obtain ⟨y0, y1, y2, y3, y4, n, hl, h0, h1, h2, h3, h4⟩ := trod_struct5 Tryz.underlying41 h
  rw [Tryz.cells41] at hl
  match cs, hl with
  | [c0, c1, c2, c3, c4], _ =>
    simp only [Tryz.cells9, Tryz.cells3, Tryz.cells37, List.drop_zero, List.drop_succ_cons, List.take_succ_cons, List.take_zero] at h0 h1 h2 h3 h4
    obtain ⟨k, hk, _, _⟩ := DataW.trod_string Tryz.underlying9 h0
    obtain ⟨s, hs, _, hsz⟩ := DataW.trod_string Tryz.underlying9 h1
    obtain ⟨a, ha, _, haw⟩ := DataW.trod_int Tryz.underlying3 h2
    obtain ⟨b, hb, _, hbw⟩ := DataW.trod_int Tryz.underlying3 h3
    obtain ⟨ao, cap, es, hv, he, hel⟩ := open_ents h4
    simp at hk hs ha hb hv
    subst hk hs ha hb hv
    refine ⟨⟨k, s, a, b, es, ao, cap⟩, rfl, ⟨he, hel, ?_, ?_, ?_⟩⟩
    · unfold maxLen at hsz; omega
    · simp [Lit.wf, IntKind.min, IntKind.max, IntKind.signed, IntKind.bits] at haw; dsimp only; omega
    · simp [Lit.wf, IntKind.min, IntKind.max, IntKind.signed, IntKind.bits] at haw; dsimp only; omega

set_option maxRecDepth 100000 in
theorem open_acts {fuel : Nat} {cs : List Value} {x : DataW H × List MemPlace} (h : DataW.trod enc Tryz.prog w base spare held fuel 22 cs = some x) :
    ∃ ao cap, ∃ acs : List ActE, cs = [.slice ao acs.length cap] ∧ ActsAt w ao acs ∧ acs.length ≤ 9223372036854775807 := by
  rcases open_slice Tryz.underlying22 h with ⟨rfl, _⟩ | ⟨a, len, cap, m, n, D, Pl, rfl, _, hl, hm, hmm, _, hx⟩
  · exact ⟨none, 0, [], rfl, fun h => absurd rfl h, by simp⟩
  · rw [Tryz.cells41] at hx
    have hlm : len ≤ m := by rw [hmm]; split <;> omega
    have each : ∀ i, i < len → ∃ e : ActE, w.cell? (a.add (i * 5)) = some (.string e.kind) ∧ w.cell? ((a.add (i * 5)).add 1) = some (.string e.s) ∧ w.cell? ((a.add (i * 5)).add 2) = some (.int .i64 e.a) ∧
        w.cell? ((a.add (i * 5)).add 3) = some (.int .i64 e.b) ∧ w.cell? ((a.add (i * 5)).add 4) = some (.slice e.ao e.es.length e.cap) ∧ ActOk w e := by
      intro i hi
      obtain ⟨cs', h1, h2⟩ := hx i (by omega)
      obtain ⟨e, rfl, hok⟩ := open_act h2
      obtain ⟨_, _, hc⟩ := World.cells?_some h1
      have a0 : (a.add (i * 5)).add 0 = a.add (i * 5) := by unfold Addr.add; simp
      exact ⟨e, by have := hc 0 (by omega); rw [a0] at this; simpa using this, by simpa using hc 1 (by omega), by simpa using hc 2 (by omega), by simpa using hc 3 (by omega), by simpa using hc 4 (by omega), hok⟩
    obtain ⟨E, hE⟩ := choose_lt each
    refine ⟨some a, cap, (List.range len).map E, by simp, ?_, by simp; unfold maxLen at hm; omega⟩
    intro hne
    have hlen : 0 < len := by
      rcases Nat.eq_zero_or_pos len with h0 | h0
      · subst h0; simp at hne
      · exact h0
    obtain ⟨b, off, spot⟩ := a
    have hs0 := (hE 0 hlen).1
    have hspot : spot = none := by simpa [Addr.add] using World.cell?_spot hs0
    subst hspot
    refine ⟨b, off, rfl, fun i e he => ?_⟩
    have hi : i < len := by
      rcases Nat.lt_or_ge i len with h1 | h1
      · exact h1
      · simp [List.getElem?_eq_none (show ((List.range len).map E).length ≤ i by simpa using h1)] at he
    have he' : e = E i := by simp [hi] at he; exact he.symm
    subst he'
    have := hE i hi
    simpa only [add_plain] using this
end
end Go.Proofs.YtjeinblcpejpnabGreatDoor

/- Errors. -/
namespace Go.Proofs.YtjeinblcpejpnabGreatDoor
open Go.RowKit

/-- An error by its number. -/
def errV (n : Int) : Value := if n = 0 then .nilIface else .iface 88 (.int .i64 n)
end Go.Proofs.YtjeinblcpejpnabGreatDoor

/- Entries: what Check answers. -/
namespace Go.Proofs.YtjeinblcpejpnabGreatDoor
open Go.RowKit

/-- What is wrong with an entry: 3, 2, or 0: nothing. -/
def faultB (key val : ByteArray) (gone : Bool) : Int :=
  if key.toList = [] ∨ (gone = true ∧ ¬ val.toList = []) then 3 else if 8 < key.size ∨ 16 < val.size then 2 else 0
theorem faultB_cases (key val : ByteArray) (gone : Bool) : faultB key val gone = 3 ∨ faultB key val gone = 2 ∨ faultB key val gone = 0 := by
  unfold faultB; split
  · simp
  · split <;> simp

set_option maxHeartbeats 400000 in
theorem check_any (key val : ByteArray) (gone : Bool) (w : World) :
    Calls Tryz.prog 69 #[.agg #[.string key, .string val, .bool gone]] w fun e w' => e = .returned (errV (faultB key val gone)) ∧ ∃ c, w' = w.alloc (.cells c 49) := by
  go_enter Tryz.func69, Tryz.ntmps69
  go_wp2
  all_goals go_ret
  all_goals refine ⟨ret_of ?_, _, rfl⟩
  all_goals simp_all [faultB, errV]
  all_goals (first | omega | (rw [if_neg (by omega), if_pos (by omega)]) | (rw [if_neg (by omega)]; rfl) | (rw [if_pos (by omega)]; rfl))
end Go.Proofs.YtjeinblcpejpnabGreatDoor

/- Entries: what goneByte answers. -/
namespace Go.Proofs.YtjeinblcpejpnabGreatDoor
open Go.RowKit

def goneN (g : Bool) : Int := if g then 1 else 0
set_option maxHeartbeats 400000 in
theorem gone_any (g : Bool) (w : World) :
    Calls Tryz.prog 70 #[.bool g] w fun e w' => e = .returned (.int .u8 (goneN g)) ∧ w' = w := by
  go_enter Tryz.func70, Tryz.ntmps70
  go_wp2
  all_goals go_ret
  all_goals exact ⟨by simp_all [goneN], rfl⟩

end Go.Proofs.YtjeinblcpejpnabGreatDoor

/- Texts: what Clone and blank answer. -/
namespace Go.Proofs.YtjeinblcpejpnabGreatDoor
open Go.RowKit

theorem Tryz.info5 : (Tryz.prog.info? 5).map (fun i => (i.zero, i.size, i.bytes)) = some (some (.int .u8 0), 1, 1) := by kernel_rfl

set_option maxHeartbeats 1000000 in
set_option maxRecDepth 100000 in
theorem slClone_any (s : ByteArray) (w : World) (hlim : s.size ≤ 281474976710656) :
    Calls Tryz.prog 120 #[.string s] w fun e w' => e = .returned (.string s) ∧ Below w.heap.size w w' := by
  by_cases h0 : s.size = 0
  · have hs : s = ⟨#[]⟩ := by
      apply ByteArray.ext
      exact Array.eq_empty_of_size_eq_zero h0
    subst hs
    go_enter Tryz.func120, Tryz.ntmps120
    go_wp2
    go_ret
    exact ⟨rfl, Below.refl _ _⟩
  · obtain ⟨i0, hi, hz0, hz1, hz2⟩ := info_parts Tryz.info5
    have hinfo : (Tryz.prog.info? 5).map (·.size) = some 1 := by rw [hi]; simp [hz1]
    have hco : Tryz.prog.cellsOf 5 = 1 := by simp [Program.cellsOf, hi, hz1]
    obtain ⟨M, hM⟩ : ∃ M, M = madeCells (Value.int .u8 0).cells (((s.size : Nat) : Int).toNat * i0.size) := ⟨_, rfl⟩
    have hMs : M.size = s.size := by rw [hM, size_madeCells, hz1]; simp
    have hmk : ∀ W : World, (Instr.makeSlice 132 (.int .i64 (s.size : Int)) (.int .i64 (s.size : Int))).run Tryz.prog W = .ok (.slice (some ⟨W.heap.size, 0, none⟩) s.size s.size) (W.alloc (.cells M 5)) := fun W => by
      have h := run_make (P := Tryz.prog) W 132 5 i0 (.int .u8 0) Tryz.underlying132 hi hz0 .i64 .i64 (s.size : Int) (s.size : Int) (by omega) (by omega) (by rw [hz2]; omega) (by omega)
      rw [← hM] at h
      simpa using h
    clear hM
    have hcp := Lib.run_copy_row_string (P := Tryz.prog) (w.alloc (.cells M 5)) 132 9 3 5 w.heap.size 0 s.size s.size s M 5 Tryz.underlying132 hinfo (heap_alloc_new w _) (Nat.le_refl _) (by omega)
    obtain ⟨Y, hY⟩ : ∃ Y, Y = (M.toList.take 0 ++ Lib.byteCells s.data.toList ++ M.toList.drop (0 + s.size)).toArray := ⟨_, rfl⟩
    rw [← hY] at hcp
    have hYl : Y.toList = Lib.byteCells s.data.toList := by
      rw [hY, List.toList_toArray, List.take_zero, List.nil_append, List.drop_of_length_le (by rw [Array.length_toList]; omega), List.append_nil]
    have hYs : Y.size = s.size := by rw [← Array.length_toList, hYl, Lib.byteCells_length, ← Lib.size_eq]
    have hgY : ((w.alloc (.cells M 5)).setRow w.heap.size Y).heap[w.heap.size]? = some (.cells Y 5 (0, 0)) := setRow_heap _ _ M _ 5 (0, 0) (heap_alloc_new w _)
    have hne : s.data.toList ≠ [] := fun e => h0 (by rw [Lib.size_eq, e]; rfl)
    have hUS := Lib.run_unsafeString_row (P := Tryz.prog) ((w.alloc (.cells M 5)).setRow w.heap.size Y) 181 3 9 5 Tryz.underlying181 hco w.heap.size Y.size (by unfold World.shape?; rw [hgY]) s.data.toList hne (by rw [← Lib.size_eq]; omega) (by rw [← Lib.size_eq]; omega)
      (fun j x hx => Lib.cells_of_row hgY Y.size j _ (by rw [List.take_of_length_le (by rw [Array.length_toList]; exact Nat.le_refl _), hYl]; simp [Lib.byteCells, hx]))
    rw [← Lib.size_eq] at hUS
    clear hY
    go_enter Tryz.func120, Tryz.ntmps120
    go_wp2
    go_ret
    have hb1 : Below w.heap.size w (w.alloc (.cells M 5)) := (Below.refl _ w).alloc (Nat.le_refl _) _
    have hb2 : Below w.heap.size (w.alloc (.cells M 5)) ((w.alloc (.cells M 5)).setRow w.heap.size Y) := ⟨rfl, rfl, rfl, by simp, fun k hk => setRow_other _ _ _ _ (by omega)⟩
    exact ⟨rfl, Lib.below_freeze (hb1.trans hb2) (p := ⟨w.heap.size, 0, none⟩) (Nat.le_refl _) _⟩

set_option maxHeartbeats 400000 in
theorem clone_any (s : ByteArray) (w : World) (hlim : s.size ≤ 281474976710656) :
    Calls Tryz.prog 115 #[.string s] w fun e w' => e = .returned (.string s) ∧ Below w.heap.size w w' := by
  go_enter Tryz.func115, Tryz.ntmps115
  go_wp2_with (go_at_call 120; refine (slClone_any s _ hlim).mono ?_; rintro e w' ⟨rfl, hb⟩)
  go_ret
  exact ⟨rfl, by assumption⟩

def blankL (l : List UInt8) : Bool := l.all (· == 0)
def blankTo (s : ByteArray) (k : Nat) : Prop := blankL (s.data.toList.take k) = true
theorem get_toList (s : ByteArray) (k : Nat) (h : k < s.size) : s.data.toList[k]? = some s[k] := by
  rw [List.getElem?_eq_getElem (by simpa using h)]; rfl
theorem blankTo_succ {s : ByteArray} {k : Nat} (h : k < s.size) (hb : blankTo s k) (hz : s[k] = 0) : blankTo s (k + 1) := by
  unfold blankTo blankL at *
  rw [List.take_add_one, get_toList s k h, hz, List.all_append, hb]; rfl
theorem blank_stop {s : ByteArray} {k : Nat} (h : k < s.size) (hz : ¬ s[k] = 0) : blankL s.data.toList = false := by
  unfold blankL
  rw [List.all_eq_false]
  exact ⟨s[k], List.mem_of_getElem? (get_toList s k h), by simpa using hz⟩

set_option maxHeartbeats 400000 in
theorem blank_any (s : ByteArray) (w : World) (hs : s.size ≤ 4611686018427387904) :
    Calls Tryz.prog 92 #[.string s] w fun e w' => e = .returned (.bool (blankL s.data.toList)) ∧ w' = w := by
  go_enter Tryz.func92, Tryz.ntmps92
  go_wp2
  go_loop [3, 6] (fun _ i => ∃ k : Nat, k ≤ s.size ∧ i = .int .i64 k ∧ blankTo s k) (fun _ i => s.size - (intOf i).toNat)
  case atStart => exact ⟨0, Nat.zero_le _, rfl, by simp [blankTo, blankL]⟩
  case round =>
    obtain ⟨k, hk, rfl, hall⟩ := hrel
    have HA : Hid (blankTo s k) := hall
    clear hall
    by_cases hlt : k < s.size
    · by_cases hz : s[k] = 0
      · have hz' : ((s[k].toNat : Int) != 0) = false := by rw [hz]; rfl
        have HZ : Hid (s[k] = 0) := hz
        clear hz
        go_wp2
        go_round
        case rel => exact ⟨k + 1, by omega, by go_num, blankTo_succ hlt HA.out HZ.out⟩
        case measure => simp [intOf]; omega
      · have hz' : ((s[k].toNat : Int) != 0) = true := by
          rw [bne_iff_ne]; intro h; apply hz; apply UInt8.toNat_inj.1; simpa using h
        have HZ : Hid (¬ s[k] = 0) := hz
        clear hz
        go_wp2
        go_ret
        exact ⟨ret_of (by rw [blank_stop hlt HZ.out]; rfl), rfl⟩
    · go_wp2
      go_ret
      refine ⟨ret_of ?_, rfl⟩
      have := HA.out
      unfold blankTo at this
      rw [List.take_of_length_le (by simp; omega)] at this
      rw [this]; rfl

end Go.Proofs.YtjeinblcpejpnabGreatDoor

/- Entries and their bytes, in plain words: what is written, what is read, and that what is written is read. -/
namespace Go.Proofs.YtjeinblcpejpnabGreatDoor

def byteAt (s : ByteArray) (i : Nat) : Nat := (s.data.toList[i]?.getD 0).toNat
def txt (l : List UInt8) : ByteArray := ⟨l.toArray⟩
def faultE (e : Ent) : Int := faultB e.key e.val e.gone

/-- The first entry of a text, and how many bytes it takes. -/
def firstS (s : ByteArray) : Option (Ent × Nat) :=
  if 3 ≤ s.size ∧ byteAt s 0 ≤ 1 ∧ 3 + byteAt s 1 + byteAt s 2 ≤ s.size ∧
      faultB (s.extract 3 (3 + byteAt s 1)) (s.extract (3 + byteAt s 1) (3 + byteAt s 1 + byteAt s 2)) (byteAt s 0 == 1) = 0 then
    some (⟨s.extract 3 (3 + byteAt s 1), s.extract (3 + byteAt s 1) (3 + byteAt s 1 + byteAt s 2), byteAt s 0 == 1⟩, 3 + byteAt s 1 + byteAt s 2)
  else none
/-- n entries, and behind them noughts alone. -/
def parseS : Nat → ByteArray → Option (List Ent)
  | 0, s => if blankL s.data.toList then some [] else none
  | n + 1, s => match firstS s with
    | none => none
    | some (e, k) => (parseS n (s.extract k s.size)).map (e :: ·)
def parseT (s : ByteArray) : Option (List Ent) := if s.size = 0 then none else parseS (byteAt s 0) (s.extract 1 s.size)

def encE (e : Ent) : List UInt8 := (if e.gone then 1 else 0) :: UInt8.ofNat e.key.size :: UInt8.ofNat e.val.size :: (e.key.data.toList ++ e.val.data.toList)
def encT (es : List Ent) : List UInt8 := UInt8.ofNat es.length :: es.flatMap encE
/-- The first fault among entries; 0: there is none. -/
def faultsE : List Ent → Int
  | [] => 0
  | e :: r => if faultE e = 0 then faultsE r else faultE e

theorem byteAt_eq (s : ByteArray) (i : Nat) (h : i < s.size) : byteAt s i = s[i].toNat := by
  unfold byteAt; rw [get_toList s i h]; rfl
theorem ba_ext {a b : ByteArray} (h : a.data.toList = b.data.toList) : a = b := by
  apply ByteArray.ext; exact Array.toList_inj.1 h
theorem toList_nil (s : ByteArray) : s.toList = [] ↔ s.size = 0 := by
  rw [ByteArray.toList_eq]
  rw [Lib.size_eq]
  constructor
  · intro h; rw [h]; rfl
  · intro h; exact List.eq_nil_of_length_eq_zero h
theorem fault_zero {e : Ent} (h : faultE e = 0) : e.key.size ≤ 8 ∧ e.val.size ≤ 16 := by
  unfold faultE faultB at h
  split at h
  · simp at h
  · split at h
    · simp at h
    · rename_i h2; omega
theorem blank_zeros (n : Nat) : blankL (List.replicate n 0) = true := by
  unfold blankL; simp

theorem first_enc (e : Ent) (r : List UInt8) (h : faultE e = 0) : firstS (txt (encE e ++ r)) = some (e, (encE e).length) := by
  obtain ⟨hk, hv⟩ := fault_zero h
  have hd : (txt (encE e ++ r)).data.toList = encE e ++ r := by simp [txt]
  have hs : (txt (encE e ++ r)).size = 3 + e.key.size + e.val.size + r.length := by
    rw [Lib.size_eq, hd]; simp [encE]; omega
  have b0 : byteAt (txt (encE e ++ r)) 0 = if e.gone then 1 else 0 := by
    unfold byteAt; rw [hd]; simp only [encE]; cases e.gone <;> rfl
  have b1 : byteAt (txt (encE e ++ r)) 1 = e.key.size := by
    unfold byteAt; rw [hd]; simp [encE]; omega
  have b2 : byteAt (txt (encE e ++ r)) 2 = e.val.size := by
    unfold byteAt; rw [hd]; simp [encE]; omega
  have hx1 : (txt (encE e ++ r)).extract 3 (3 + e.key.size) = e.key := by
    apply ba_ext; rw [Lib.extract_data, hd]
    rw [show 3 + e.key.size - 3 = e.key.data.toList.length by rw [← Lib.size_eq]; omega]; simp only [encE, List.cons_append, List.drop_succ_cons, List.drop_zero, List.append_assoc, List.take_left]
  have hx2 : (txt (encE e ++ r)).extract (3 + e.key.size) (3 + e.key.size + e.val.size) = e.val := by
    apply ba_ext; rw [Lib.extract_data, hd]
    have : 3 + e.key.size = e.key.data.toList.length + 1 + 1 + 1 := by rw [← Lib.size_eq]; omega
    rw [this, show e.key.data.toList.length + 1 + 1 + 1 + e.val.size - (e.key.data.toList.length + 1 + 1 + 1) = e.val.data.toList.length by rw [← Lib.size_eq e.val]; omega]
    simp [encE]
  have hl : (encE e).length = 3 + e.key.size + e.val.size := by simp [encE]; omega
  have hg : (byteAt (txt (encE e ++ r)) 0 == 1) = e.gone := by rw [b0]; cases e.gone <;> rfl
  unfold firstS
  rw [hg, b1, b2, hx1, hx2, hl]
  rw [if_pos ⟨by omega, by rw [b0]; split <;> omega, by omega, h⟩]

theorem parse_enc (es : List Ent) (n : Nat) (h : ∀ e ∈ es, faultE e = 0) : parseS es.length (txt (es.flatMap encE ++ List.replicate n 0)) = some es := by
  induction es with
  | nil => simp only [List.length_nil, List.flatMap_nil, List.nil_append, parseS]; rw [if_pos (by simp [txt, blank_zeros])]
  | cons e r ih =>
    simp only [List.length_cons, List.flatMap_cons, List.append_assoc, parseS]
    rw [first_enc e _ (h e (by simp))]
    simp only
    have : (txt (encE e ++ (r.flatMap encE ++ List.replicate n 0))).extract (encE e).length (txt (encE e ++ (r.flatMap encE ++ List.replicate n 0))).size = txt (r.flatMap encE ++ List.replicate n 0) := by
      apply ba_ext; rw [Lib.extract_to_end]; simp [txt]
    rw [this, ih (fun x hx => h x (by simp [hx]))]
    rfl

theorem parse_encT (es : List Ent) (n : Nat) (h : ∀ e ∈ es, faultE e = 0) (hl : es.length < 256) : parseT (txt (encT es ++ List.replicate n 0)) = some es := by
  have hd : (txt (encT es ++ List.replicate n 0)).data.toList = encT es ++ List.replicate n 0 := by simp [txt]
  have h0 : ¬ (txt (encT es ++ List.replicate n 0)).size = 0 := by rw [Lib.size_eq, hd]; simp [encT]
  unfold parseT
  rw [if_neg h0]
  have hb : byteAt (txt (encT es ++ List.replicate n 0)) 0 = es.length := by unfold byteAt; rw [hd]; simp [encT]; omega
  have : (txt (encT es ++ List.replicate n 0)).extract 1 (txt (encT es ++ List.replicate n 0)).size = txt (es.flatMap encE ++ List.replicate n 0) := by
    apply ba_ext; rw [Lib.extract_to_end, hd]; simp [encT, txt]
  rw [hb, this]
  exact parse_enc es n h

theorem faultsE_zero {es : List Ent} (h : faultsE es = 0) : ∀ e ∈ es, faultE e = 0 := by
  induction es with
  | nil => simp
  | cons e r ih =>
    unfold faultsE at h
    by_cases he : faultE e = 0
    · rw [if_pos he] at h
      intro x hx
      rcases List.mem_cons.1 hx with rfl | hx
      · exact he
      · exact ih h x hx
    · rw [if_neg he] at h; exact absurd h he

end Go.Proofs.YtjeinblcpejpnabGreatDoor
