/- EntE EntF EntK EntC EntM EntD. -/
import Derived.Test.YtjeinblcpejpnabGreatDoorEntLJ
import Derived.WalkKit
import Derived.WalkSpells
import Derived.WalkLawsBesides
import Derived.Deep.QuietTactic
import Derived.BigQuiet
import Derived.Lib.Strings
import Derived.Lib.Walk
import Derived.Lib.BufferWrite
import Derived.Lib.UnsafeStr
import Derived.Laws.MakeOwn
import Derived.Lib.IndexBytes
import Derived.Deep.DeepCutAuto
import Derived.Deep.Light
import Derived.Deep.RegionHeld3
import Derived.Deep.DrawnRows

/- Errors. -/
namespace Go.Proofs.YtjeinblcpejpnabGreatDoor
open Go.RowKit

/-- An error by its number. -/
def errV (n : Int) : Value := if n = 0 then .nilIface else .iface 88 (.int .i64 n)
end Go.Proofs.YtjeinblcpejpnabGreatDoor

/- Entries: what Check answers. -/
namespace Go.Proofs.YtjeinblcpejpnabGreatDoor
open Go.RowKit

/-- What is wrong with an entry: 3, 2, or 0: nothing. -/
def faultB (key val : ByteArray) (gone : Bool) : Int :=
  if key.toList = [] ∨ (gone = true ∧ ¬ val.toList = []) then 3 else if 8 < key.size ∨ 16 < val.size then 2 else 0
theorem faultB_cases (key val : ByteArray) (gone : Bool) : faultB key val gone = 3 ∨ faultB key val gone = 2 ∨ faultB key val gone = 0 := by
  unfold faultB; split
  · simp
  · split <;> simp

set_option maxHeartbeats 400000 in
theorem check_any (key val : ByteArray) (gone : Bool) (w : World) :
    Calls Tryz.prog 69 #[.agg #[.string key, .string val, .bool gone]] w fun e w' => e = .returned (errV (faultB key val gone)) ∧ ∃ c, w' = w.alloc (.cells c 49) := by
  go_enter Tryz.func69, Tryz.ntmps69
  go_wp2
  all_goals go_ret
  all_goals refine ⟨ret_of ?_, _, rfl⟩
  all_goals simp_all [faultB, errV]
  all_goals (first | omega | (rw [if_neg (by omega), if_pos (by omega)]) | (rw [if_neg (by omega)]; rfl) | (rw [if_pos (by omega)]; rfl))
end Go.Proofs.YtjeinblcpejpnabGreatDoor

/- Entries: what goneByte answers. -/
namespace Go.Proofs.YtjeinblcpejpnabGreatDoor
open Go.RowKit

def goneN (g : Bool) : Int := if g then 1 else 0
set_option maxHeartbeats 400000 in
theorem gone_any (g : Bool) (w : World) :
    Calls Tryz.prog 70 #[.bool g] w fun e w' => e = .returned (.int .u8 (goneN g)) ∧ w' = w := by
  go_enter Tryz.func70, Tryz.ntmps70
  go_wp2
  all_goals go_ret
  all_goals exact ⟨by simp_all [goneN], rfl⟩

end Go.Proofs.YtjeinblcpejpnabGreatDoor

/- Texts: what Clone and blank answer. -/
namespace Go.Proofs.YtjeinblcpejpnabGreatDoor
open Go.RowKit

theorem Tryz.info5 : (Tryz.prog.info? 5).map (fun i => (i.zero, i.size, i.bytes)) = some (some (.int .u8 0), 1, 1) := by kernel_rfl

set_option maxHeartbeats 1000000 in
set_option maxRecDepth 100000 in
theorem slClone_any (s : ByteArray) (w : World) (hlim : s.size ≤ 281474976710656) :
    Calls Tryz.prog 120 #[.string s] w fun e w' => e = .returned (.string s) ∧ Below w.heap.size w w' := by
  by_cases h0 : s.size = 0
  · have hs : s = ⟨#[]⟩ := by
      apply ByteArray.ext
      exact Array.eq_empty_of_size_eq_zero h0
    subst hs
    go_enter Tryz.func120, Tryz.ntmps120
    go_wp2
    go_ret
    exact ⟨rfl, Below.refl _ _⟩
  · obtain ⟨i0, hi, hz0, hz1, hz2⟩ := info_parts Tryz.info5
    have hinfo : (Tryz.prog.info? 5).map (·.size) = some 1 := by rw [hi]; simp [hz1]
    have hco : Tryz.prog.cellsOf 5 = 1 := by simp [Program.cellsOf, hi, hz1]
    obtain ⟨M, hM⟩ : ∃ M, M = madeCells (Value.int .u8 0).cells (((s.size : Nat) : Int).toNat * i0.size) := ⟨_, rfl⟩
    have hMs : M.size = s.size := by rw [hM, size_madeCells, hz1]; simp
    have hmk : ∀ W : World, (Instr.makeSlice 132 (.int .i64 (s.size : Int)) (.int .i64 (s.size : Int))).run Tryz.prog W = .ok (.slice (some ⟨W.heap.size, 0, none⟩) s.size s.size) (W.alloc (.cells M 5)) := fun W => by
      have h := run_make (P := Tryz.prog) W 132 5 i0 (.int .u8 0) Tryz.underlying132 hi hz0 .i64 .i64 (s.size : Int) (s.size : Int) (by omega) (by omega) (by rw [hz2]; omega) (by omega)
      rw [← hM] at h
      simpa using h
    clear hM
    have hcp := Lib.run_copy_row_string (P := Tryz.prog) (w.alloc (.cells M 5)) 132 9 3 5 w.heap.size 0 s.size s.size s M 5 Tryz.underlying132 hinfo (heap_alloc_new w _) (Nat.le_refl _) (by omega)
    obtain ⟨Y, hY⟩ : ∃ Y, Y = (M.toList.take 0 ++ Lib.byteCells s.data.toList ++ M.toList.drop (0 + s.size)).toArray := ⟨_, rfl⟩
    rw [← hY] at hcp
    have hYl : Y.toList = Lib.byteCells s.data.toList := by
      rw [hY, List.toList_toArray, List.take_zero, List.nil_append, List.drop_of_length_le (by rw [Array.length_toList]; omega), List.append_nil]
    have hYs : Y.size = s.size := by rw [← Array.length_toList, hYl, Lib.byteCells_length, ← Lib.size_eq]
    have hgY : ((w.alloc (.cells M 5)).setRow w.heap.size Y).heap[w.heap.size]? = some (.cells Y 5 (0, 0)) := setRow_heap _ _ M _ 5 (0, 0) (heap_alloc_new w _)
    have hne : s.data.toList ≠ [] := fun e => h0 (by rw [Lib.size_eq, e]; rfl)
    have hUS := Lib.run_unsafeString_row (P := Tryz.prog) ((w.alloc (.cells M 5)).setRow w.heap.size Y) 181 3 9 5 Tryz.underlying181 hco w.heap.size Y.size (by unfold World.shape?; rw [hgY]) s.data.toList hne (by rw [← Lib.size_eq]; omega) (by rw [← Lib.size_eq]; omega)
      (fun j x hx => Lib.cells_of_row hgY Y.size j _ (by rw [List.take_of_length_le (by rw [Array.length_toList]; exact Nat.le_refl _), hYl]; simp [Lib.byteCells, hx]))
    rw [← Lib.size_eq] at hUS
    clear hY
    go_enter Tryz.func120, Tryz.ntmps120
    go_wp2
    go_ret
    have hb1 : Below w.heap.size w (w.alloc (.cells M 5)) := (Below.refl _ w).alloc (Nat.le_refl _) _
    have hb2 : Below w.heap.size (w.alloc (.cells M 5)) ((w.alloc (.cells M 5)).setRow w.heap.size Y) := ⟨rfl, rfl, rfl, by simp, fun k hk => setRow_other _ _ _ _ (by omega)⟩
    exact ⟨rfl, Lib.below_freeze (hb1.trans hb2) (p := ⟨w.heap.size, 0, none⟩) (Nat.le_refl _) _⟩

set_option maxHeartbeats 400000 in
theorem clone_any (s : ByteArray) (w : World) (hlim : s.size ≤ 281474976710656) :
    Calls Tryz.prog 115 #[.string s] w fun e w' => e = .returned (.string s) ∧ Below w.heap.size w w' := by
  go_enter Tryz.func115, Tryz.ntmps115
  go_wp2_with (go_at_call 120; refine (slClone_any s _ hlim).mono ?_; rintro e w' ⟨rfl, hb⟩)
  go_ret
  exact ⟨rfl, by assumption⟩

def blankL (l : List UInt8) : Bool := l.all (· == 0)
def blankTo (s : ByteArray) (k : Nat) : Prop := blankL (s.data.toList.take k) = true
theorem get_toList (s : ByteArray) (k : Nat) (h : k < s.size) : s.data.toList[k]? = some s[k] := by
  rw [List.getElem?_eq_getElem (by simpa using h)]; rfl
theorem blankTo_succ {s : ByteArray} {k : Nat} (h : k < s.size) (hb : blankTo s k) (hz : s[k] = 0) : blankTo s (k + 1) := by
  unfold blankTo blankL at *
  rw [List.take_add_one, get_toList s k h, hz, List.all_append, hb]; rfl
theorem blank_stop {s : ByteArray} {k : Nat} (h : k < s.size) (hz : ¬ s[k] = 0) : blankL s.data.toList = false := by
  unfold blankL
  rw [List.all_eq_false]
  exact ⟨s[k], List.mem_of_getElem? (get_toList s k h), by simpa using hz⟩

set_option maxHeartbeats 400000 in
theorem blank_any (s : ByteArray) (w : World) (hs : s.size ≤ 4611686018427387904) :
    Calls Tryz.prog 92 #[.string s] w fun e w' => e = .returned (.bool (blankL s.data.toList)) ∧ w' = w := by
  go_enter Tryz.func92, Tryz.ntmps92
  go_wp2
  go_loop [3, 6] (fun _ i => ∃ k : Nat, k ≤ s.size ∧ i = .int .i64 k ∧ blankTo s k) (fun _ i => s.size - (intOf i).toNat)
  case atStart => exact ⟨0, Nat.zero_le _, rfl, by simp [blankTo, blankL]⟩
  case round =>
    obtain ⟨k, hk, rfl, hall⟩ := hrel
    have HA : Hid (blankTo s k) := hall
    clear hall
    by_cases hlt : k < s.size
    · by_cases hz : s[k] = 0
      · have hz' : ((s[k].toNat : Int) != 0) = false := by rw [hz]; rfl
        have HZ : Hid (s[k] = 0) := hz
        clear hz
        go_wp2
        go_round
        case rel => exact ⟨k + 1, by omega, by go_num, blankTo_succ hlt HA.out HZ.out⟩
        case measure => simp [intOf]; omega
      · have hz' : ((s[k].toNat : Int) != 0) = true := by
          rw [bne_iff_ne]; intro h; apply hz; apply UInt8.toNat_inj.1; simpa using h
        have HZ : Hid (¬ s[k] = 0) := hz
        clear hz
        go_wp2
        go_ret
        exact ⟨ret_of (by rw [blank_stop hlt HZ.out]; rfl), rfl⟩
    · go_wp2
      go_ret
      refine ⟨ret_of ?_, rfl⟩
      have := HA.out
      unfold blankTo at this
      rw [List.take_of_length_le (by simp; omega)] at this
      rw [this]; rfl

end Go.Proofs.YtjeinblcpejpnabGreatDoor

/- Entries and their bytes, in plain words: what is written, what is read, and that what is written is read. -/
namespace Go.Proofs.YtjeinblcpejpnabGreatDoor

def byteAt (s : ByteArray) (i : Nat) : Nat := (s.data.toList[i]?.getD 0).toNat
def txt (l : List UInt8) : ByteArray := ⟨l.toArray⟩
def faultE (e : Ent) : Int := faultB e.key e.val e.gone

/-- The first entry of a text, and how many bytes it takes. -/
def firstS (s : ByteArray) : Option (Ent × Nat) :=
  if 3 ≤ s.size ∧ byteAt s 0 ≤ 1 ∧ 3 + byteAt s 1 + byteAt s 2 ≤ s.size ∧
      faultB (s.extract 3 (3 + byteAt s 1)) (s.extract (3 + byteAt s 1) (3 + byteAt s 1 + byteAt s 2)) (byteAt s 0 == 1) = 0 then
    some (⟨s.extract 3 (3 + byteAt s 1), s.extract (3 + byteAt s 1) (3 + byteAt s 1 + byteAt s 2), byteAt s 0 == 1⟩, 3 + byteAt s 1 + byteAt s 2)
  else none
/-- n entries, and behind them noughts alone. -/
def parseS : Nat → ByteArray → Option (List Ent)
  | 0, s => if blankL s.data.toList then some [] else none
  | n + 1, s => match firstS s with
    | none => none
    | some (e, k) => (parseS n (s.extract k s.size)).map (e :: ·)
def parseT (s : ByteArray) : Option (List Ent) := if s.size = 0 then none else parseS (byteAt s 0) (s.extract 1 s.size)

def encE (e : Ent) : List UInt8 := (if e.gone then 1 else 0) :: UInt8.ofNat e.key.size :: UInt8.ofNat e.val.size :: (e.key.data.toList ++ e.val.data.toList)
def encT (es : List Ent) : List UInt8 := UInt8.ofNat es.length :: es.flatMap encE
/-- The first fault among entries; 0: there is none. -/
def faultsE : List Ent → Int
  | [] => 0
  | e :: r => if faultE e = 0 then faultsE r else faultE e

theorem byteAt_eq (s : ByteArray) (i : Nat) (h : i < s.size) : byteAt s i = s[i].toNat := by
  unfold byteAt; rw [get_toList s i h]; rfl
theorem ba_ext {a b : ByteArray} (h : a.data.toList = b.data.toList) : a = b := by
  apply ByteArray.ext; exact Array.toList_inj.1 h
theorem toList_nil (s : ByteArray) : s.toList = [] ↔ s.size = 0 := by
  rw [ByteArray.toList_eq]
  rw [Lib.size_eq]
  constructor
  · intro h; rw [h]; rfl
  · intro h; exact List.eq_nil_of_length_eq_zero h
theorem fault_zero {e : Ent} (h : faultE e = 0) : e.key.size ≤ 8 ∧ e.val.size ≤ 16 := by
  unfold faultE faultB at h
  split at h
  · simp at h
  · split at h
    · simp at h
    · rename_i h2; omega
theorem blank_zeros (n : Nat) : blankL (List.replicate n 0) = true := by
  unfold blankL; simp

theorem first_enc (e : Ent) (r : List UInt8) (h : faultE e = 0) : firstS (txt (encE e ++ r)) = some (e, (encE e).length) := by
  obtain ⟨hk, hv⟩ := fault_zero h
  have hd : (txt (encE e ++ r)).data.toList = encE e ++ r := by simp [txt]
  have hs : (txt (encE e ++ r)).size = 3 + e.key.size + e.val.size + r.length := by
    rw [Lib.size_eq, hd]; simp [encE]; omega
  have b0 : byteAt (txt (encE e ++ r)) 0 = if e.gone then 1 else 0 := by
    unfold byteAt; rw [hd]; simp only [encE]; cases e.gone <;> rfl
  have b1 : byteAt (txt (encE e ++ r)) 1 = e.key.size := by
    unfold byteAt; rw [hd]; simp [encE]; omega
  have b2 : byteAt (txt (encE e ++ r)) 2 = e.val.size := by
    unfold byteAt; rw [hd]; simp [encE]; omega
  have hx1 : (txt (encE e ++ r)).extract 3 (3 + e.key.size) = e.key := by
    apply ba_ext; rw [Lib.extract_data, hd]
    rw [show 3 + e.key.size - 3 = e.key.data.toList.length by rw [← Lib.size_eq]; omega]; simp only [encE, List.cons_append, List.drop_succ_cons, List.drop_zero, List.append_assoc, List.take_left]
  have hx2 : (txt (encE e ++ r)).extract (3 + e.key.size) (3 + e.key.size + e.val.size) = e.val := by
    apply ba_ext; rw [Lib.extract_data, hd]
    have : 3 + e.key.size = e.key.data.toList.length + 1 + 1 + 1 := by rw [← Lib.size_eq]; omega
    rw [this, show e.key.data.toList.length + 1 + 1 + 1 + e.val.size - (e.key.data.toList.length + 1 + 1 + 1) = e.val.data.toList.length by rw [← Lib.size_eq e.val]; omega]
    simp [encE]
  have hl : (encE e).length = 3 + e.key.size + e.val.size := by simp [encE]; omega
  have hg : (byteAt (txt (encE e ++ r)) 0 == 1) = e.gone := by rw [b0]; cases e.gone <;> rfl
  unfold firstS
  rw [hg, b1, b2, hx1, hx2, hl]
  rw [if_pos ⟨by omega, by rw [b0]; split <;> omega, by omega, h⟩]

theorem parse_enc (es : List Ent) (n : Nat) (h : ∀ e ∈ es, faultE e = 0) : parseS es.length (txt (es.flatMap encE ++ List.replicate n 0)) = some es := by
  induction es with
  | nil => simp only [List.length_nil, List.flatMap_nil, List.nil_append, parseS]; rw [if_pos (by simp [txt, blank_zeros])]
  | cons e r ih =>
    simp only [List.length_cons, List.flatMap_cons, List.append_assoc, parseS]
    rw [first_enc e _ (h e (by simp))]
    simp only
    have : (txt (encE e ++ (r.flatMap encE ++ List.replicate n 0))).extract (encE e).length (txt (encE e ++ (r.flatMap encE ++ List.replicate n 0))).size = txt (r.flatMap encE ++ List.replicate n 0) := by
      apply ba_ext; rw [Lib.extract_to_end]; simp [txt]
    rw [this, ih (fun x hx => h x (by simp [hx]))]
    rfl

theorem parse_encT (es : List Ent) (n : Nat) (h : ∀ e ∈ es, faultE e = 0) (hl : es.length < 256) : parseT (txt (encT es ++ List.replicate n 0)) = some es := by
  have hd : (txt (encT es ++ List.replicate n 0)).data.toList = encT es ++ List.replicate n 0 := by simp [txt]
  have h0 : ¬ (txt (encT es ++ List.replicate n 0)).size = 0 := by rw [Lib.size_eq, hd]; simp [encT]
  unfold parseT
  rw [if_neg h0]
  have hb : byteAt (txt (encT es ++ List.replicate n 0)) 0 = es.length := by unfold byteAt; rw [hd]; simp [encT]; omega
  have : (txt (encT es ++ List.replicate n 0)).extract 1 (txt (encT es ++ List.replicate n 0)).size = txt (es.flatMap encE ++ List.replicate n 0) := by
    apply ba_ext; rw [Lib.extract_to_end, hd]; simp [encT, txt]
  rw [hb, this]
  exact parse_enc es n h

theorem faultsE_zero {es : List Ent} (h : faultsE es = 0) : ∀ e ∈ es, faultE e = 0 := by
  induction es with
  | nil => simp
  | cons e r ih =>
    unfold faultsE at h
    by_cases he : faultE e = 0
    · rw [if_pos he] at h
      intro x hx
      rcases List.mem_cons.1 hx with rfl | hx
      · exact he
      · exact ih h x hx
    · rw [if_neg he] at h; exact absurd h he

end Go.Proofs.YtjeinblcpejpnabGreatDoor

/- The first entry of a text. -/
namespace Go.Proofs.YtjeinblcpejpnabGreatDoor
open Go.RowKit
attribute [local go_sem ↓] Go.wp_at_zero Go.wp_at_succ

theorem bcell {W w1 : World} (hb : Below W.heap.size W w1) : (∀ b o, b < W.heap.size → w1.cell? ⟨b, o, none⟩ = W.cell? ⟨b, o, none⟩) ∧ (∀ b o, b < W.heap.size → w1.frozen? ⟨b, o, none⟩ = W.frozen? ⟨b, o, none⟩) :=
  ⟨fun b o h => hb.cell (p := ⟨b, o, none⟩) h, fun b o h => hb.frozen (p := ⟨b, o, none⟩) h⟩
theorem Blk.put3 {w : World} {b : Nat} {x y z x' y' z' : Value} {t : TypeId} (h : Blk w b #[x, y, z] t) : Blk (((w.setCell ⟨b, 0, none⟩ x').setCell ⟨b, 1, none⟩ y').setCell ⟨b, 2, none⟩ z') b #[x', y', z'] t :=
  ((h.set 0 x').set 1 y').set 2 z'
theorem Tryz.results91 : Tryz.f91.results = #[.cell 2 49, .tmp 3, .tmp 4] := by kernel_rfl

theorem check_ok (key val : ByteArray) (gone : Bool) (w : World) (h : faultB key val gone = 0) :
    Calls Tryz.prog 69 #[.agg #[.string key, .string val, .bool gone]] w fun e w' => e = .returned .nilIface ∧ ∃ c, w' = w.alloc (.cells c 49) := by
  refine (check_any key val gone w).mono ?_
  rintro e w' ⟨rfl, c, rfl⟩
  exact ⟨by rw [h]; rfl, c, rfl⟩
theorem check_bad (key val : ByteArray) (gone : Bool) (w : World) (h : ¬ faultB key val gone = 0) :
    Calls Tryz.prog 69 #[.agg #[.string key, .string val, .bool gone]] w fun e w' => (∃ n, e = .returned (.iface 88 (.int .i64 n)) ∧ n = faultB key val gone) ∧ ∃ c, w' = w.alloc (.cells c 49) := by
  refine (check_any key val gone w).mono ?_
  rintro e w' ⟨rfl, c, rfl⟩
  exact ⟨⟨_, by unfold errV; rw [if_neg h], rfl⟩, c, rfl⟩

set_option maxHeartbeats 4000000 in
theorem first_in (s : ByteArray) (w : World) (a b c : UInt8) (h3 : 3 ≤ s.size) (hs : s.size ≤ 281474976710656) (h0 : s[0] = a) (h1 : s[1] = b) (h2 : s[2] = c) (ha : a.toNat ≤ 1)
    (he : 3 + b.toNat + c.toNat ≤ s.size) :
    Calls Tryz.prog 91 #[.string s] w fun e w' =>
      ((faultB (s.extract 3 (3 + b.toNat)) (s.extract (3 + b.toNat) (3 + b.toNat + c.toNat)) ((a.toNat : Int) == 1) = 0 ∧
        e = .returned (.tuple #[.agg #[.string (s.extract 3 (3 + b.toNat)), .string (s.extract (3 + b.toNat) (3 + b.toNat + c.toNat)), .bool ((a.toNat : Int) == 1)], .int .i64 (3 + (b.toNat : Int) + (c.toNat : Int)), .bool true])) ∨
       (¬ faultB (s.extract 3 (3 + b.toNat)) (s.extract (3 + b.toNat) (3 + b.toNat + c.toNat)) ((a.toNat : Int) == 1) = 0 ∧
        e = .returned (.tuple #[.agg #[.string ⟨#[]⟩, .string ⟨#[]⟩, .bool false], .int .i64 0, .bool false]))) ∧ Ext w w' := by
  have ha' : ¬ (1 : Int) < (a.toNat : Int) := by omega
  have hb : b.toNat < 256 := b.toNat_lt
  have hc : c.toNat < 256 := c.toNat_lt
  have sl1 : ∀ W : World, (Instr.slice 9 (.string s) (some (.int .i64 3)) (some (.int .i64 (3 + (b.toNat : Int)))) none).run Tryz.prog W = .ok (.string (s.extract 3 (3 + b.toNat))) W := fun W => by
    have := run_slice_string (P := Tryz.prog) (w := W) 9 s .i64 .i64 3 (3 + (b.toNat : Int)) Tryz.underlying9 (by omega) (by omega) (by omega)
    rw [this, show (3 : Int).toNat = 3 from rfl, show (3 + (b.toNat : Int)).toNat = 3 + b.toNat by omega]
  have sl2 : ∀ W : World, (Instr.slice 9 (.string s) (some (.int .i64 (3 + (b.toNat : Int)))) (some (.int .i64 (3 + (b.toNat : Int) + (c.toNat : Int)))) none).run Tryz.prog W = .ok (.string (s.extract (3 + b.toNat) (3 + b.toNat + c.toNat))) W := fun W => by
    have := run_slice_string (P := Tryz.prog) (w := W) 9 s .i64 .i64 (3 + (b.toNat : Int)) (3 + (b.toNat : Int) + (c.toNat : Int)) Tryz.underlying9 (by omega) (by omega) (by omega)
    rw [this, show (3 + (b.toNat : Int)).toNat = 3 + b.toNat by omega, show (3 + (b.toNat : Int) + (c.toNat : Int)).toNat = 3 + b.toNat + c.toNat by omega]
  have ix0 : ∀ W : World, (Instr.index 9 (.string s) (.int .i64 0)).run Tryz.prog W = .ok (.int .u8 (a.toNat : Int)) W := fun W => by
    have h0' : (0 : Nat) < s.size := by omega
    simp [go_sem, Tryz.underlying9, h0', h0]
  generalize hK : s.extract 3 (3 + b.toNat) = K at *
  generalize hV : s.extract (3 + b.toNat) (3 + b.toNat + c.toNat) = V at *
  have HK : Hid (s.extract 3 (3 + b.toNat) = K) := hK
  have HV : Hid (s.extract (3 + b.toNat) (3 + b.toNat + c.toNat) = V) := hV
  have hKs : K.size ≤ 281474976710656 := by rw [← hK]; simp; omega
  have hVs : V.size ≤ 281474976710656 := by rw [← hV]; simp; omega
  clear hK hV
  have hp : 0 < s.size := by omega
  have h3' : ¬ ((s.size : Int) < 3) := by omega
  have he' : ¬ ((s.size : Int) < 3 + (b.toNat : Int) + (c.toNat : Int)) := by omega
  go_enter Tryz.func91, Tryz.ntmps91
  go_upto_region 7 with fail
  go_cut [7] (fun s7 wx => ∃ blk, s7 = .pointer (some ⟨blk, 0, none⟩) ∧ Blk wx blk #[.string K, .string V, .bool ((a.toNat : Int) == 1)] 49 ∧ Blk wx w.heap.size #[.string ⟨#[]⟩, .string ⟨#[]⟩, .bool false] 49 ∧ blk ≠ w.heap.size ∧ Ext w wx)
  case first =>
    go_region_held3 (fun _ => True) (trivial) (first | (go_at_call_of 115 (Value.string K); refine (clone_any K _ hKs).mono ?_; rintro e w' ⟨rfl, hbel⟩; have hsz := fun k (h : k < _) => Nat.lt_of_lt_of_le h hbel.size; obtain ⟨hcc, hff⟩ := bcell hbel; have hx : Ext _ _ := ⟨hbel⟩; clear hbel) | (go_at_call_of 115 (Value.string V); refine (clone_any V _ hVs).mono ?_; rintro e w' ⟨rfl, hbel⟩; have hsz := fun k (h : k < _) => Nat.lt_of_lt_of_le h hbel.size; obtain ⟨hcc, hff⟩ := bcell hbel; have hx : Ext _ _ := ⟨hbel⟩; clear hbel))
    all_goals go_wp2_with fail
    all_goals go_meet
    all_goals refine ⟨_, rfl, ?_, ?_, Ne.symm ?_, ?_⟩
    all_goals go_light
    all_goals clear hcc hff hsz sl1 sl2 ix0 HK HV
    all_goals (repeat (first | with_reducible exact Blk.new _ _ _ | with_reducible exact Ext.refl _ | with_reducible refine Blk.drew ?_ | with_reducible refine Ext.drew ?_ | with_reducible refine Blk.put3 (x := .string ⟨#[]⟩) (y := .string ⟨#[]⟩) (z := .bool false) ?_ | with_reducible refine Blk.other ?_ ?_ _ | with_reducible refine Ext.set ?_ ?_ _ | (with_reducible refine Blk.new' _ _ _ ?_; simp; done) | with_reducible refine Blk.alloc ?_ _ | with_reducible refine Ext.alloc ?_ _ | with_reducible refine Blk.ext ‹Ext _ _› ?_ | with_reducible refine Ext.trans ?_ ‹Ext _ _› | (show (_ : Nat) ≠ _; (try dsimp only); omega) | (show (_ : Nat) ≤ _; (try dsimp only); omega) | refine (Blk.ne_new (cs := #[.string ⟨#[]⟩, .string ⟨#[]⟩, .bool false]) (t := 49) ?_) | refine Ext.size (a := w) ?_))
  case rest =>
    obtain ⟨blk, rfl, hB, hR, hne, hx⟩ := hcut
    have c0 := hB.cell 0
    have c1 := hB.cell 1
    have c2 := hB.cell 2
    have r0 := hR.cell 0
    have r1 := hR.cell 1
    have r2 := hR.cell 2
    have f0 := hR.free 0
    have f1 := hR.free 1
    have f2 := hR.free 2
    have hlt := hR.lt
    have hlt2 := hB.lt
    have hsz := hx.size
    simp at c0 c1 c2 r0 r1 r2
    by_cases HF : faultB K V ((a.toNat : Int) == 1) = 0
    · have HH : Hid (faultB K V ((a.toNat : Int) == 1) = 0) := HF
      clear HF
      go_wp2_with (go_at_call 69; refine (check_ok K V _ _ HH.out).mono ?_; rintro e w' ⟨rfl, cc, rfl⟩)
      refine bodyPost_ret (v := .tuple #[.agg #[.string K, .string V, .bool ((a.toNat : Int) == 1)], .int .i64 (3 + (b.toNat : Int) + (c.toNat : Int)), .bool true]) (by simp [results, go_sem, r0, r1, r2, hlt]) rfl ⟨.inl ⟨HH.out, rfl⟩, ?_⟩
      refine Ext.alloc (Ext.set (Ext.set (Ext.set hx ?_ _) ?_ _) ?_ _) _ <;> exact Nat.le_refl _
    · have HH : Hid (¬ faultB K V ((a.toNat : Int) == 1) = 0) := HF
      clear HF
      go_wp2_with (go_at_call 69; refine (check_bad K V _ _ HH.out).mono ?_; rintro e w' ⟨⟨nn, rfl, _⟩, cc, rfl⟩)
      refine bodyPost_ret (v := .tuple #[.agg #[.string ⟨#[]⟩, .string ⟨#[]⟩, .bool false], .int .i64 0, .bool false]) (by simp [results, go_sem, r0, r1, r2, hlt]) rfl ⟨.inr ⟨HH.out, rfl⟩, ?_⟩
      refine Ext.alloc (Ext.set (Ext.set (Ext.set hx ?_ _) ?_ _) ?_ _) _ <;> exact Nat.le_refl _

set_option maxHeartbeats 1000000 in
theorem first_short (s : ByteArray) (w : World) (h : s.size < 3) :
    Calls Tryz.prog 91 #[.string s] w fun e w' => e = .returned (.tuple #[.agg #[.string ⟨#[]⟩, .string ⟨#[]⟩, .bool false], .int .i64 0, .bool false]) ∧ Ext w w' := by
  go_enter Tryz.func91, Tryz.ntmps91
  go_wp2
  refine bodyPost_ret (v := .tuple #[.agg #[.string ⟨#[]⟩, .string ⟨#[]⟩, .bool false], .int .i64 0, .bool false]) (by simp [results, go_sem]) rfl ⟨rfl, ?_⟩
  exact (Ext.refl _).alloc _

set_option maxHeartbeats 1000000 in
theorem first_high (s : ByteArray) (w : World) (a : UInt8) (h : 3 ≤ s.size) (h0 : s[0] = a) (ha : ¬ a.toNat ≤ 1) :
    Calls Tryz.prog 91 #[.string s] w fun e w' => e = .returned (.tuple #[.agg #[.string ⟨#[]⟩, .string ⟨#[]⟩, .bool false], .int .i64 0, .bool false]) ∧ Ext w w' := by
  have hp : 0 < s.size := by omega
  have ha' : (1 : Int) < (a.toNat : Int) := by omega
  go_enter Tryz.func91, Tryz.ntmps91
  go_wp2
  refine bodyPost_ret (v := .tuple #[.agg #[.string ⟨#[]⟩, .string ⟨#[]⟩, .bool false], .int .i64 0, .bool false]) (by simp [results, go_sem]) rfl ⟨rfl, ?_⟩
  exact (Ext.refl _).alloc _

set_option maxHeartbeats 1000000 in
theorem first_far (s : ByteArray) (w : World) (a b c : UInt8) (h : 3 ≤ s.size) (hs : s.size ≤ 281474976710656) (h0 : s[0] = a) (h1 : s[1] = b) (h2 : s[2] = c) (ha : a.toNat ≤ 1) (he : ¬ 3 + b.toNat + c.toNat ≤ s.size) :
    Calls Tryz.prog 91 #[.string s] w fun e w' => e = .returned (.tuple #[.agg #[.string ⟨#[]⟩, .string ⟨#[]⟩, .bool false], .int .i64 0, .bool false]) ∧ Ext w w' := by
  have hp : 0 < s.size := by omega
  have ha' : ¬ (1 : Int) < (a.toNat : Int) := by omega
  have hb : b.toNat < 256 := b.toNat_lt
  have hc : c.toNat < 256 := c.toNat_lt
  go_enter Tryz.func91, Tryz.ntmps91
  go_wp2
  refine bodyPost_ret (v := .tuple #[.agg #[.string ⟨#[]⟩, .string ⟨#[]⟩, .bool false], .int .i64 0, .bool false]) (by simp [results, go_sem]) rfl ⟨rfl, ?_⟩
  exact (Ext.refl _).alloc _

def zeroE : Value := .agg #[.string ⟨#[]⟩, .string ⟨#[]⟩, .bool false]
theorem gone_int (n : Nat) : ((n : Int) == 1) = (n == 1) := by
  rw [Bool.eq_iff_iff]; simp; omega

theorem first_none (s : ByteArray) (w : World) (hs : s.size ≤ 281474976710656) (h : firstS s = none) :
    Calls Tryz.prog 91 #[.string s] w fun e w' => e = .returned (.tuple #[.agg #[.string ⟨#[]⟩, .string ⟨#[]⟩, .bool false], .int .i64 0, .bool false]) ∧ Ext w w' := by
  by_cases h3 : 3 ≤ s.size
  · have e0 := byteAt_eq s 0 (by omega)
    have e1 := byteAt_eq s 1 (by omega)
    have e2 := byteAt_eq s 2 (by omega)
    by_cases ha : s[0].toNat ≤ 1
    · by_cases he : 3 + s[1].toNat + s[2].toNat ≤ s.size
      · refine (first_in s w s[0] s[1] s[2] h3 hs rfl rfl rfl ha he).mono ?_
        rintro e w' ⟨h1 | h1, hx⟩
        · exfalso
          unfold firstS at h
          rw [e0, e1, e2, ← gone_int, if_pos ⟨h3, ha, he, h1.1⟩] at h
          simp at h
        · exact ⟨h1.2, hx⟩
      · exact first_far s w s[0] s[1] s[2] h3 hs rfl rfl rfl ha he
    · exact first_high s w s[0] h3 rfl ha
  · exact first_short s w (by omega)

theorem first_some (s : ByteArray) (w : World) (hs : s.size ≤ 281474976710656) (e : Ent) (n : Nat) (h : firstS s = some (e, n)) :
    Calls Tryz.prog 91 #[.string s] w fun r w' => r = .returned (.tuple #[.agg #[.string e.key, .string e.val, .bool e.gone], .int .i64 (n : Int), .bool true]) ∧ Ext w w' := by
  unfold firstS at h
  split at h
  · rename_i hc
    obtain ⟨h3, ha, he, hf⟩ := hc
    have e0 := byteAt_eq s 0 (by omega)
    have e1 := byteAt_eq s 1 (by omega)
    have e2 := byteAt_eq s 2 (by omega)
    rw [e0] at ha
    rw [e1, e2] at he
    rw [e0, e1, e2, ← gone_int] at hf
    rw [e0, e1, e2] at h
    simp only [Option.some.injEq, Prod.mk.injEq] at h
    obtain ⟨rfl, rfl⟩ := h
    refine (first_in s w s[0] s[1] s[2] h3 hs rfl rfl rfl ha he).mono ?_
    rintro r w' ⟨h1 | h1, hx⟩
    · refine ⟨?_, hx⟩
      rw [h1.2, gone_int]
      simp only [Int.natCast_add]
      rfl
    · exact absurd hf h1.1
  · simp at h

end Go.Proofs.YtjeinblcpejpnabGreatDoor
