/- EntC EntM EntD EntP EntS. -/
import Derived.Test.YtkibgflbidkalaaGreatDoorEntKJ
import Derived.Test.YtkibgflbidkalaaGreatDoorEntLJ
import Derived.Lib.Strings
import Derived.Lib.Walk
import Derived.Lib.BufferWrite
import Derived.Lib.UnsafeStr
import Derived.Laws.MakeOwn
import Derived.Lib.IndexBytes
import Derived.Test.YtkibgflbidkalaaGreatDoorWldJ
import Derived.Deep.DeepCutAuto
import Derived.Deep.Light
import Derived.Deep.RegionHeld3
import Derived.Deep.DrawnRows
import Derived.Lib.AppendStr
import Derived.Deep.AppendLies

/- Texts: what Clone and blank answer. -/
namespace Go.Proofs.YtkibgflbidkalaaGreatDoor
open Go.RowKit

theorem Tryz.info5 : (Tryz.prog.info? 5).map (fun i => (i.zero, i.size, i.bytes)) = some (some (.int .u8 0), 1, 1) := by kernel_rfl

set_option maxHeartbeats 1000000 in
set_option maxRecDepth 100000 in
theorem slClone_any (s : ByteArray) (w : World) (hlim : s.size ≤ 281474976710656) :
    Calls Tryz.prog 157 #[.string s] w fun e w' => e = .returned (.string s) ∧ Below w.heap.size w w' := by
  by_cases h0 : s.size = 0
  · have hs : s = ⟨#[]⟩ := by
      apply ByteArray.ext
      exact Array.eq_empty_of_size_eq_zero h0
    subst hs
    go_enter Tryz.func157, Tryz.ntmps157
    go_wp2
    go_ret
    exact ⟨rfl, Below.refl _ _⟩
  · obtain ⟨i0, hi, hz0, hz1, hz2⟩ := info_parts Tryz.info5
    have hinfo : (Tryz.prog.info? 5).map (·.size) = some 1 := by rw [hi]; simp [hz1]
    have hco : Tryz.prog.cellsOf 5 = 1 := by simp [Program.cellsOf, hi, hz1]
    obtain ⟨M, hM⟩ : ∃ M, M = madeCells (Value.int .u8 0).cells (((s.size : Nat) : Int).toNat * i0.size) := ⟨_, rfl⟩
    have hMs : M.size = s.size := by rw [hM, size_madeCells, hz1]; simp
    have hmk : ∀ W : World, (Instr.makeSlice 118 (.int .i64 (s.size : Int)) (.int .i64 (s.size : Int))).run Tryz.prog W = .ok (.slice (some ⟨W.heap.size, 0, none⟩) s.size s.size) (W.alloc (.cells M 5)) := fun W => by
      have h := run_make (P := Tryz.prog) W 118 5 i0 (.int .u8 0) Tryz.underlying118 hi hz0 .i64 .i64 (s.size : Int) (s.size : Int) (by omega) (by omega) (by rw [hz2]; omega) (by omega)
      rw [← hM] at h
      simpa using h
    clear hM
    have hcp := Lib.run_copy_row_string (P := Tryz.prog) (w.alloc (.cells M 5)) 118 9 3 5 w.heap.size 0 s.size s.size s M 5 Tryz.underlying118 hinfo (heap_alloc_new w _) (Nat.le_refl _) (by omega)
    obtain ⟨Y, hY⟩ : ∃ Y, Y = (M.toList.take 0 ++ Lib.byteCells s.data.toList ++ M.toList.drop (0 + s.size)).toArray := ⟨_, rfl⟩
    rw [← hY] at hcp
    have hYl : Y.toList = Lib.byteCells s.data.toList := by
      rw [hY, List.toList_toArray, List.take_zero, List.nil_append, List.drop_of_length_le (by rw [Array.length_toList]; omega), List.append_nil]
    have hYs : Y.size = s.size := by rw [← Array.length_toList, hYl, Lib.byteCells_length, ← Lib.size_eq]
    have hgY : ((w.alloc (.cells M 5)).setRow w.heap.size Y).heap[w.heap.size]? = some (.cells Y 5 (0, 0)) := setRow_heap _ _ M _ 5 (0, 0) (heap_alloc_new w _)
    have hne : s.data.toList ≠ [] := fun e => h0 (by rw [Lib.size_eq, e]; rfl)
    have hUS := Lib.run_unsafeString_row (P := Tryz.prog) ((w.alloc (.cells M 5)).setRow w.heap.size Y) 179 3 9 5 Tryz.underlying179 hco w.heap.size Y.size (by unfold World.shape?; rw [hgY]) s.data.toList hne (by rw [← Lib.size_eq]; omega) (by rw [← Lib.size_eq]; omega)
      (fun j x hx => Lib.cells_of_row hgY Y.size j _ (by rw [List.take_of_length_le (by rw [Array.length_toList]; exact Nat.le_refl _), hYl]; simp [Lib.byteCells, hx]))
    rw [← Lib.size_eq] at hUS
    clear hY
    go_enter Tryz.func157, Tryz.ntmps157
    go_wp2
    go_ret
    have hb1 : Below w.heap.size w (w.alloc (.cells M 5)) := (Below.refl _ w).alloc (Nat.le_refl _) _
    have hb2 : Below w.heap.size (w.alloc (.cells M 5)) ((w.alloc (.cells M 5)).setRow w.heap.size Y) := ⟨rfl, rfl, rfl, by simp, fun k hk => setRow_other _ _ _ _ (by omega)⟩
    exact ⟨rfl, Lib.below_freeze (hb1.trans hb2) (p := ⟨w.heap.size, 0, none⟩) (Nat.le_refl _) _⟩

set_option maxHeartbeats 400000 in
theorem clone_any (s : ByteArray) (w : World) (hlim : s.size ≤ 281474976710656) :
    Calls Tryz.prog 127 #[.string s] w fun e w' => e = .returned (.string s) ∧ Below w.heap.size w w' := by
  go_enter Tryz.func127, Tryz.ntmps127
  go_wp2_with (go_at_call 157; refine (slClone_any s _ hlim).mono ?_; rintro e w' ⟨rfl, hb⟩)
  go_ret
  exact ⟨rfl, by assumption⟩

def blankL (l : List UInt8) : Bool := l.all (· == 0)
def blankTo (s : ByteArray) (k : Nat) : Prop := blankL (s.data.toList.take k) = true
theorem get_toList (s : ByteArray) (k : Nat) (h : k < s.size) : s.data.toList[k]? = some s[k] := by
  rw [List.getElem?_eq_getElem (by simpa using h)]; rfl
theorem blankTo_succ {s : ByteArray} {k : Nat} (h : k < s.size) (hb : blankTo s k) (hz : s[k] = 0) : blankTo s (k + 1) := by
  unfold blankTo blankL at *
  rw [List.take_add_one, get_toList s k h, hz, List.all_append, hb]; rfl
theorem blank_stop {s : ByteArray} {k : Nat} (h : k < s.size) (hz : ¬ s[k] = 0) : blankL s.data.toList = false := by
  unfold blankL
  rw [List.all_eq_false]
  exact ⟨s[k], List.mem_of_getElem? (get_toList s k h), by simpa using hz⟩

set_option maxHeartbeats 400000 in
theorem blank_any (s : ByteArray) (w : World) (hs : s.size ≤ 4611686018427387904) :
    Calls Tryz.prog 118 #[.string s] w fun e w' => e = .returned (.bool (blankL s.data.toList)) ∧ w' = w := by
  go_enter Tryz.func118, Tryz.ntmps118
  go_wp2
  go_loop [3, 6] (fun _ i => ∃ k : Nat, k ≤ s.size ∧ i = .int .i64 k ∧ blankTo s k) (fun _ i => s.size - (intOf i).toNat)
  case atStart => exact ⟨0, Nat.zero_le _, rfl, by simp [blankTo, blankL]⟩
  case round =>
    obtain ⟨k, hk, rfl, hall⟩ := hrel
    have HA : Hid (blankTo s k) := hall
    clear hall
    by_cases hlt : k < s.size
    · by_cases hz : s[k] = 0
      · have hz' : ((s[k].toNat : Int) != 0) = false := by rw [hz]; rfl
        have HZ : Hid (s[k] = 0) := hz
        clear hz
        go_wp2
        go_round
        case rel => exact ⟨k + 1, by omega, by go_num, blankTo_succ hlt HA.out HZ.out⟩
        case measure => simp [intOf]; omega
      · have hz' : ((s[k].toNat : Int) != 0) = true := by
          rw [bne_iff_ne]; intro h; apply hz; apply UInt8.toNat_inj.1; simpa using h
        have HZ : Hid (¬ s[k] = 0) := hz
        clear hz
        go_wp2
        go_ret
        exact ⟨ret_of (by rw [blank_stop hlt HZ.out]; rfl), rfl⟩
    · go_wp2
      go_ret
      refine ⟨ret_of ?_, rfl⟩
      have := HA.out
      unfold blankTo at this
      rw [List.take_of_length_le (by simp; omega)] at this
      rw [this]; rfl

end Go.Proofs.YtkibgflbidkalaaGreatDoor

/- Entries and their bytes, in plain words: what is written, what is read, and that what is written is read. -/
namespace Go.Proofs.YtkibgflbidkalaaGreatDoor

def byteAt (s : ByteArray) (i : Nat) : Nat := (s.data.toList[i]?.getD 0).toNat
def txt (l : List UInt8) : ByteArray := ⟨l.toArray⟩
def faultE (e : Ent) : Int := faultB e.key e.val e.gone

def firstS (s : ByteArray) : Option (Ent × Nat) :=
  if 3 ≤ s.size ∧ byteAt s 0 ≤ 1 ∧ 3 + byteAt s 1 + byteAt s 2 ≤ s.size ∧
      faultB (s.extract 3 (3 + byteAt s 1)) (s.extract (3 + byteAt s 1) (3 + byteAt s 1 + byteAt s 2)) (byteAt s 0 == 1) = 0 then
    some (⟨s.extract 3 (3 + byteAt s 1), s.extract (3 + byteAt s 1) (3 + byteAt s 1 + byteAt s 2), byteAt s 0 == 1⟩, 3 + byteAt s 1 + byteAt s 2)
  else none
def parseS : Nat → ByteArray → Option (List Ent)
  | 0, s => if blankL s.data.toList then some [] else none
  | n + 1, s => match firstS s with
    | none => none
    | some (e, k) => (parseS n (s.extract k s.size)).map (e :: ·)
def parseT (s : ByteArray) : Option (List Ent) := if s.size = 0 then none else parseS (byteAt s 0) (s.extract 1 s.size)

def encE (e : Ent) : List UInt8 := (if e.gone then 1 else 0) :: UInt8.ofNat e.key.size :: UInt8.ofNat e.val.size :: (e.key.data.toList ++ e.val.data.toList)
def encT (es : List Ent) : List UInt8 := UInt8.ofNat es.length :: es.flatMap encE
def faultsE : List Ent → Int
  | [] => 0
  | e :: r => if faultE e = 0 then faultsE r else faultE e

theorem byteAt_eq (s : ByteArray) (i : Nat) (h : i < s.size) : byteAt s i = s[i].toNat := by
  unfold byteAt; rw [get_toList s i h]; rfl
theorem ba_ext {a b : ByteArray} (h : a.data.toList = b.data.toList) : a = b := by
  apply ByteArray.ext; exact Array.toList_inj.1 h
theorem toList_nil (s : ByteArray) : s.toList = [] ↔ s.size = 0 := by
  rw [ByteArray.toList_eq]
  rw [Lib.size_eq]
  constructor
  · intro h; rw [h]; rfl
  · intro h; exact List.eq_nil_of_length_eq_zero h
theorem fault_zero {e : Ent} (h : faultE e = 0) : e.key.size ≤ 8 ∧ e.val.size ≤ 16 := by
  unfold faultE faultB at h
  split at h
  · simp at h
  · split at h
    · simp at h
    · rename_i h2; omega
theorem blank_zeros (n : Nat) : blankL (List.replicate n 0) = true := by
  unfold blankL; simp

theorem first_enc (e : Ent) (r : List UInt8) (h : faultE e = 0) : firstS (txt (encE e ++ r)) = some (e, (encE e).length) := by
  obtain ⟨hk, hv⟩ := fault_zero h
  have hd : (txt (encE e ++ r)).data.toList = encE e ++ r := by simp [txt]
  have hs : (txt (encE e ++ r)).size = 3 + e.key.size + e.val.size + r.length := by
    rw [Lib.size_eq, hd]; simp [encE]; omega
  have b0 : byteAt (txt (encE e ++ r)) 0 = if e.gone then 1 else 0 := by
    unfold byteAt; rw [hd]; simp only [encE]; cases e.gone <;> rfl
  have b1 : byteAt (txt (encE e ++ r)) 1 = e.key.size := by
    unfold byteAt; rw [hd]; simp [encE]; omega
  have b2 : byteAt (txt (encE e ++ r)) 2 = e.val.size := by
    unfold byteAt; rw [hd]; simp [encE]; omega
  have hx1 : (txt (encE e ++ r)).extract 3 (3 + e.key.size) = e.key := by
    apply ba_ext; rw [Lib.extract_data, hd]
    rw [show 3 + e.key.size - 3 = e.key.data.toList.length by rw [← Lib.size_eq]; omega]; simp only [encE, List.cons_append, List.drop_succ_cons, List.drop_zero, List.append_assoc, List.take_left]
  have hx2 : (txt (encE e ++ r)).extract (3 + e.key.size) (3 + e.key.size + e.val.size) = e.val := by
    apply ba_ext; rw [Lib.extract_data, hd]
    have : 3 + e.key.size = e.key.data.toList.length + 1 + 1 + 1 := by rw [← Lib.size_eq]; omega
    rw [this, show e.key.data.toList.length + 1 + 1 + 1 + e.val.size - (e.key.data.toList.length + 1 + 1 + 1) = e.val.data.toList.length by rw [← Lib.size_eq e.val]; omega]
    simp [encE]
  have hl : (encE e).length = 3 + e.key.size + e.val.size := by simp [encE]; omega
  have hg : (byteAt (txt (encE e ++ r)) 0 == 1) = e.gone := by rw [b0]; cases e.gone <;> rfl
  unfold firstS
  rw [hg, b1, b2, hx1, hx2, hl]
  rw [if_pos ⟨by omega, by rw [b0]; split <;> omega, by omega, h⟩]

theorem parse_enc (es : List Ent) (n : Nat) (h : ∀ e ∈ es, faultE e = 0) : parseS es.length (txt (es.flatMap encE ++ List.replicate n 0)) = some es := by
  induction es with
  | nil => simp only [List.length_nil, List.flatMap_nil, List.nil_append, parseS]; rw [if_pos (by simp [txt, blank_zeros])]
  | cons e r ih =>
    simp only [List.length_cons, List.flatMap_cons, List.append_assoc, parseS]
    rw [first_enc e _ (h e (by simp))]
    simp only
    have : (txt (encE e ++ (r.flatMap encE ++ List.replicate n 0))).extract (encE e).length (txt (encE e ++ (r.flatMap encE ++ List.replicate n 0))).size = txt (r.flatMap encE ++ List.replicate n 0) := by
      apply ba_ext; rw [Lib.extract_to_end]; simp [txt]
    rw [this, ih (fun x hx => h x (by simp [hx]))]
    rfl

theorem parse_encT (es : List Ent) (n : Nat) (h : ∀ e ∈ es, faultE e = 0) (hl : es.length < 256) : parseT (txt (encT es ++ List.replicate n 0)) = some es := by
  have hd : (txt (encT es ++ List.replicate n 0)).data.toList = encT es ++ List.replicate n 0 := by simp [txt]
  have h0 : ¬ (txt (encT es ++ List.replicate n 0)).size = 0 := by rw [Lib.size_eq, hd]; simp [encT]
  unfold parseT
  rw [if_neg h0]
  have hb : byteAt (txt (encT es ++ List.replicate n 0)) 0 = es.length := by unfold byteAt; rw [hd]; simp [encT]; omega
  have : (txt (encT es ++ List.replicate n 0)).extract 1 (txt (encT es ++ List.replicate n 0)).size = txt (es.flatMap encE ++ List.replicate n 0) := by
    apply ba_ext; rw [Lib.extract_to_end, hd]; simp [encT, txt]
  rw [hb, this]
  exact parse_enc es n h

theorem faultsE_zero {es : List Ent} (h : faultsE es = 0) : ∀ e ∈ es, faultE e = 0 := by
  induction es with
  | nil => simp
  | cons e r ih =>
    unfold faultsE at h
    by_cases he : faultE e = 0
    · rw [if_pos he] at h
      intro x hx
      rcases List.mem_cons.1 hx with rfl | hx
      · exact he
      · exact ih h x hx
    · rw [if_neg he] at h; exact absurd h he

end Go.Proofs.YtkibgflbidkalaaGreatDoor

/- The first entry of a text. -/
namespace Go.Proofs.YtkibgflbidkalaaGreatDoor
open Go.RowKit
attribute [local go_sem ↓] Go.wp_at_zero Go.wp_at_succ

theorem bcell {W w1 : World} (hb : Below W.heap.size W w1) : (∀ b o, b < W.heap.size → w1.cell? ⟨b, o, none⟩ = W.cell? ⟨b, o, none⟩) ∧ (∀ b o, b < W.heap.size → w1.frozen? ⟨b, o, none⟩ = W.frozen? ⟨b, o, none⟩) :=
  ⟨fun b o h => hb.cell (p := ⟨b, o, none⟩) h, fun b o h => hb.frozen (p := ⟨b, o, none⟩) h⟩
theorem Blk.put3 {w : World} {b : Nat} {x y z x' y' z' : Value} {t : TypeId} (h : Blk w b #[x, y, z] t) : Blk (((w.setCell ⟨b, 0, none⟩ x').setCell ⟨b, 1, none⟩ y').setCell ⟨b, 2, none⟩ z') b #[x', y', z'] t :=
  ((h.set 0 x').set 1 y').set 2 z'
theorem check_ok (key val : ByteArray) (gone : Bool) (w : World) (h : faultB key val gone = 0) :
    Calls Tryz.prog 132 #[.agg #[.string key, .string val, .bool gone]] w fun e w' => e = .returned .nilIface ∧ ∃ c, w' = w.alloc (.cells c 56) := by
  refine (check_any key val gone w).mono ?_
  rintro e w' ⟨rfl, c, rfl⟩
  exact ⟨by rw [h]; rfl, c, rfl⟩
theorem check_bad (key val : ByteArray) (gone : Bool) (w : World) (h : ¬ faultB key val gone = 0) :
    Calls Tryz.prog 132 #[.agg #[.string key, .string val, .bool gone]] w fun e w' => (∃ n, e = .returned (.iface 39 (.int .i64 n)) ∧ n = faultB key val gone) ∧ ∃ c, w' = w.alloc (.cells c 56) := by
  refine (check_any key val gone w).mono ?_
  rintro e w' ⟨rfl, c, rfl⟩
  exact ⟨⟨_, by unfold errV; rw [if_neg h], rfl⟩, c, rfl⟩

set_option maxHeartbeats 4000000 in
theorem first_in (s : ByteArray) (w : World) (a b c : UInt8) (h3 : 3 ≤ s.size) (hs : s.size ≤ 281474976710656) (h0 : s[0] = a) (h1 : s[1] = b) (h2 : s[2] = c) (ha : a.toNat ≤ 1)
    (he : 3 + b.toNat + c.toNat ≤ s.size) :
    Calls Tryz.prog 117 #[.string s] w fun e w' =>
      ((faultB (s.extract 3 (3 + b.toNat)) (s.extract (3 + b.toNat) (3 + b.toNat + c.toNat)) ((a.toNat : Int) == 1) = 0 ∧
        e = .returned (.tuple #[.agg #[.string (s.extract 3 (3 + b.toNat)), .string (s.extract (3 + b.toNat) (3 + b.toNat + c.toNat)), .bool ((a.toNat : Int) == 1)], .int .i64 (3 + (b.toNat : Int) + (c.toNat : Int)), .bool true])) ∨
       (¬ faultB (s.extract 3 (3 + b.toNat)) (s.extract (3 + b.toNat) (3 + b.toNat + c.toNat)) ((a.toNat : Int) == 1) = 0 ∧
        e = .returned (.tuple #[.agg #[.string ⟨#[]⟩, .string ⟨#[]⟩, .bool false], .int .i64 0, .bool false]))) ∧ Ext w w' := by
  have ha' : ¬ (1 : Int) < (a.toNat : Int) := by omega
  have hb : b.toNat < 256 := b.toNat_lt
  have hc : c.toNat < 256 := c.toNat_lt
  have sl1 : ∀ W : World, (Instr.slice 9 (.string s) (some (.int .i64 3)) (some (.int .i64 (3 + (b.toNat : Int)))) none).run Tryz.prog W = .ok (.string (s.extract 3 (3 + b.toNat))) W := fun W => by
    have := run_slice_string (P := Tryz.prog) (w := W) 9 s .i64 .i64 3 (3 + (b.toNat : Int)) Tryz.underlying9 (by omega) (by omega) (by omega)
    rw [this, show (3 : Int).toNat = 3 from rfl, show (3 + (b.toNat : Int)).toNat = 3 + b.toNat by omega]
  have sl2 : ∀ W : World, (Instr.slice 9 (.string s) (some (.int .i64 (3 + (b.toNat : Int)))) (some (.int .i64 (3 + (b.toNat : Int) + (c.toNat : Int)))) none).run Tryz.prog W = .ok (.string (s.extract (3 + b.toNat) (3 + b.toNat + c.toNat))) W := fun W => by
    have := run_slice_string (P := Tryz.prog) (w := W) 9 s .i64 .i64 (3 + (b.toNat : Int)) (3 + (b.toNat : Int) + (c.toNat : Int)) Tryz.underlying9 (by omega) (by omega) (by omega)
    rw [this, show (3 + (b.toNat : Int)).toNat = 3 + b.toNat by omega, show (3 + (b.toNat : Int) + (c.toNat : Int)).toNat = 3 + b.toNat + c.toNat by omega]
  have ix0 : ∀ W : World, (Instr.index 9 (.string s) (.int .i64 0)).run Tryz.prog W = .ok (.int .u8 (a.toNat : Int)) W := fun W => by
    have h0' : (0 : Nat) < s.size := by omega
    simp [go_sem, Tryz.underlying9, h0', h0]
  generalize hK : s.extract 3 (3 + b.toNat) = K at *
  generalize hV : s.extract (3 + b.toNat) (3 + b.toNat + c.toNat) = V at *
  have HK : Hid (s.extract 3 (3 + b.toNat) = K) := hK
  have HV : Hid (s.extract (3 + b.toNat) (3 + b.toNat + c.toNat) = V) := hV
  have hKs : K.size ≤ 281474976710656 := by rw [← hK]; simp; omega
  have hVs : V.size ≤ 281474976710656 := by rw [← hV]; simp; omega
  clear hK hV
  have hp : 0 < s.size := by omega
  have h3' : ¬ ((s.size : Int) < 3) := by omega
  have he' : ¬ ((s.size : Int) < 3 + (b.toNat : Int) + (c.toNat : Int)) := by omega
  go_enter Tryz.func117, Tryz.ntmps117
  go_upto_region 7 with fail
  go_cut [7] (fun s7 wx => ∃ blk, s7 = .pointer (some ⟨blk, 0, none⟩) ∧ Blk wx blk #[.string K, .string V, .bool ((a.toNat : Int) == 1)] 56 ∧ Blk wx w.heap.size #[.string ⟨#[]⟩, .string ⟨#[]⟩, .bool false] 56 ∧ blk ≠ w.heap.size ∧ Ext w wx)
  case first =>
    go_region_held3 (fun _ => True) (trivial) (first | (go_at_call_of 127 (Value.string K); refine (clone_any K _ hKs).mono ?_; rintro e w' ⟨rfl, hbel⟩; have hsz := fun k (h : k < _) => Nat.lt_of_lt_of_le h hbel.size; obtain ⟨hcc, hff⟩ := bcell hbel; have hx : Ext _ _ := ⟨hbel⟩; clear hbel) | (go_at_call_of 127 (Value.string V); refine (clone_any V _ hVs).mono ?_; rintro e w' ⟨rfl, hbel⟩; have hsz := fun k (h : k < _) => Nat.lt_of_lt_of_le h hbel.size; obtain ⟨hcc, hff⟩ := bcell hbel; have hx : Ext _ _ := ⟨hbel⟩; clear hbel))
    all_goals go_wp2_with fail
    all_goals go_meet
    all_goals refine ⟨_, rfl, ?_, ?_, Ne.symm ?_, ?_⟩
    all_goals go_light
    all_goals clear hcc hff hsz sl1 sl2 ix0 HK HV
    all_goals (repeat (first | with_reducible exact Blk.new _ _ _ | with_reducible exact Ext.refl _ | with_reducible refine Blk.drew ?_ | with_reducible refine Ext.drew ?_ | with_reducible refine Blk.put3 (x := .string ⟨#[]⟩) (y := .string ⟨#[]⟩) (z := .bool false) ?_ | with_reducible refine Blk.other ?_ ?_ _ | with_reducible refine Ext.set ?_ ?_ _ | (with_reducible refine Blk.new' _ _ _ ?_; simp; done) | with_reducible refine Blk.alloc ?_ _ | with_reducible refine Ext.alloc ?_ _ | with_reducible refine Blk.ext ‹Ext _ _› ?_ | with_reducible refine Ext.trans ?_ ‹Ext _ _› | (show (_ : Nat) ≠ _; (try dsimp only); omega) | (show (_ : Nat) ≤ _; (try dsimp only); omega) | refine (Blk.ne_new (cs := #[.string ⟨#[]⟩, .string ⟨#[]⟩, .bool false]) (t := 56) ?_) | refine Ext.size (a := w) ?_))
  case rest =>
    obtain ⟨blk, rfl, hB, hR, hne, hx⟩ := hcut
    have c0 := hB.cell 0
    have c1 := hB.cell 1
    have c2 := hB.cell 2
    have r0 := hR.cell 0
    have r1 := hR.cell 1
    have r2 := hR.cell 2
    have f0 := hR.free 0
    have f1 := hR.free 1
    have f2 := hR.free 2
    have hlt := hR.lt
    have hlt2 := hB.lt
    have hsz := hx.size
    simp at c0 c1 c2 r0 r1 r2
    by_cases HF : faultB K V ((a.toNat : Int) == 1) = 0
    · have HH : Hid (faultB K V ((a.toNat : Int) == 1) = 0) := HF
      clear HF
      go_wp2_with (go_at_call 132; refine (check_ok K V _ _ HH.out).mono ?_; rintro e w' ⟨rfl, cc, rfl⟩)
      refine bodyPost_ret (v := .tuple #[.agg #[.string K, .string V, .bool ((a.toNat : Int) == 1)], .int .i64 (3 + (b.toNat : Int) + (c.toNat : Int)), .bool true]) (by simp [results, go_sem, r0, r1, r2, hlt]) rfl ⟨.inl ⟨HH.out, rfl⟩, ?_⟩
      refine Ext.alloc (Ext.set (Ext.set (Ext.set hx ?_ _) ?_ _) ?_ _) _ <;> exact Nat.le_refl _
    · have HH : Hid (¬ faultB K V ((a.toNat : Int) == 1) = 0) := HF
      clear HF
      go_wp2_with (go_at_call 132; refine (check_bad K V _ _ HH.out).mono ?_; rintro e w' ⟨⟨nn, rfl, _⟩, cc, rfl⟩)
      refine bodyPost_ret (v := .tuple #[.agg #[.string ⟨#[]⟩, .string ⟨#[]⟩, .bool false], .int .i64 0, .bool false]) (by simp [results, go_sem, r0, r1, r2, hlt]) rfl ⟨.inr ⟨HH.out, rfl⟩, ?_⟩
      refine Ext.alloc (Ext.set (Ext.set (Ext.set hx ?_ _) ?_ _) ?_ _) _ <;> exact Nat.le_refl _

set_option maxHeartbeats 1000000 in
theorem first_short (s : ByteArray) (w : World) (h : s.size < 3) :
    Calls Tryz.prog 117 #[.string s] w fun e w' => e = .returned (.tuple #[.agg #[.string ⟨#[]⟩, .string ⟨#[]⟩, .bool false], .int .i64 0, .bool false]) ∧ Ext w w' := by
  go_enter Tryz.func117, Tryz.ntmps117
  go_wp2
  refine bodyPost_ret (v := .tuple #[.agg #[.string ⟨#[]⟩, .string ⟨#[]⟩, .bool false], .int .i64 0, .bool false]) (by simp [results, go_sem]) rfl ⟨rfl, ?_⟩
  exact (Ext.refl _).alloc _

set_option maxHeartbeats 1000000 in
theorem first_high (s : ByteArray) (w : World) (a : UInt8) (h : 3 ≤ s.size) (h0 : s[0] = a) (ha : ¬ a.toNat ≤ 1) :
    Calls Tryz.prog 117 #[.string s] w fun e w' => e = .returned (.tuple #[.agg #[.string ⟨#[]⟩, .string ⟨#[]⟩, .bool false], .int .i64 0, .bool false]) ∧ Ext w w' := by
  have hp : 0 < s.size := by omega
  have ha' : (1 : Int) < (a.toNat : Int) := by omega
  go_enter Tryz.func117, Tryz.ntmps117
  go_wp2
  refine bodyPost_ret (v := .tuple #[.agg #[.string ⟨#[]⟩, .string ⟨#[]⟩, .bool false], .int .i64 0, .bool false]) (by simp [results, go_sem]) rfl ⟨rfl, ?_⟩
  exact (Ext.refl _).alloc _

set_option maxHeartbeats 1000000 in
theorem first_far (s : ByteArray) (w : World) (a b c : UInt8) (h : 3 ≤ s.size) (hs : s.size ≤ 281474976710656) (h0 : s[0] = a) (h1 : s[1] = b) (h2 : s[2] = c) (ha : a.toNat ≤ 1) (he : ¬ 3 + b.toNat + c.toNat ≤ s.size) :
    Calls Tryz.prog 117 #[.string s] w fun e w' => e = .returned (.tuple #[.agg #[.string ⟨#[]⟩, .string ⟨#[]⟩, .bool false], .int .i64 0, .bool false]) ∧ Ext w w' := by
  have hp : 0 < s.size := by omega
  have ha' : ¬ (1 : Int) < (a.toNat : Int) := by omega
  have hb : b.toNat < 256 := b.toNat_lt
  have hc : c.toNat < 256 := c.toNat_lt
  go_enter Tryz.func117, Tryz.ntmps117
  go_wp2
  refine bodyPost_ret (v := .tuple #[.agg #[.string ⟨#[]⟩, .string ⟨#[]⟩, .bool false], .int .i64 0, .bool false]) (by simp [results, go_sem]) rfl ⟨rfl, ?_⟩
  exact (Ext.refl _).alloc _

theorem gone_int (n : Nat) : ((n : Int) == 1) = (n == 1) := by
  rw [Bool.eq_iff_iff]; simp; omega

theorem first_none (s : ByteArray) (w : World) (hs : s.size ≤ 281474976710656) (h : firstS s = none) :
    Calls Tryz.prog 117 #[.string s] w fun e w' => e = .returned (.tuple #[.agg #[.string ⟨#[]⟩, .string ⟨#[]⟩, .bool false], .int .i64 0, .bool false]) ∧ Ext w w' := by
  by_cases h3 : 3 ≤ s.size
  · have e0 := byteAt_eq s 0 (by omega)
    have e1 := byteAt_eq s 1 (by omega)
    have e2 := byteAt_eq s 2 (by omega)
    by_cases ha : s[0].toNat ≤ 1
    · by_cases he : 3 + s[1].toNat + s[2].toNat ≤ s.size
      · refine (first_in s w s[0] s[1] s[2] h3 hs rfl rfl rfl ha he).mono ?_
        rintro e w' ⟨h1 | h1, hx⟩
        · exfalso
          unfold firstS at h
          rw [e0, e1, e2, ← gone_int, if_pos ⟨h3, ha, he, h1.1⟩] at h
          simp at h
        · exact ⟨h1.2, hx⟩
      · exact first_far s w s[0] s[1] s[2] h3 hs rfl rfl rfl ha he
    · exact first_high s w s[0] h3 rfl ha
  · exact first_short s w (by omega)

theorem first_some (s : ByteArray) (w : World) (hs : s.size ≤ 281474976710656) (e : Ent) (n : Nat) (h : firstS s = some (e, n)) :
    Calls Tryz.prog 117 #[.string s] w fun r w' => r = .returned (.tuple #[.agg #[.string e.key, .string e.val, .bool e.gone], .int .i64 (n : Int), .bool true]) ∧ Ext w w' := by
  unfold firstS at h
  split at h
  · rename_i hc
    obtain ⟨h3, ha, he, hf⟩ := hc
    have e0 := byteAt_eq s 0 (by omega)
    have e1 := byteAt_eq s 1 (by omega)
    have e2 := byteAt_eq s 2 (by omega)
    rw [e0] at ha
    rw [e1, e2] at he
    rw [e0, e1, e2, ← gone_int] at hf
    rw [e0, e1, e2] at h
    simp only [Option.some.injEq, Prod.mk.injEq] at h
    obtain ⟨rfl, rfl⟩ := h
    refine (first_in s w s[0] s[1] s[2] h3 hs rfl rfl rfl ha he).mono ?_
    rintro r w' ⟨h1 | h1, hx⟩
    · refine ⟨?_, hx⟩
      rw [h1.2, gone_int]
      simp only [Int.natCast_add]
      rfl
    · exact absurd hf h1.1
  · simp at h

end Go.Proofs.YtkibgflbidkalaaGreatDoor

/- What Parse answers. -/
namespace Go.Proofs.YtkibgflbidkalaaGreatDoor
open Go.RowKit
attribute [local go_sem ↓] Go.wp_at_zero Go.wp_at_succ

structure PGood (s : ByteArray) (n k : Nat) (rest : ByteArray) (es : List Ent) : Prop where
  len : es.length = k
  size : rest.size ≤ s.size
  spec : parseT s = (parseS (n - k) rest).map (es ++ ·)

theorem ownsRow_ext {a b : World} {base : Nat} {t : TypeId} {size n : Nat} {v : Value} {xs : List Value} (h : a.ownsRow base t size v n xs) (he : Ext a b) : b.ownsRow base t size v n xs := by
  refine ⟨h.1, ?_⟩
  rcases h.2 with hn | ⟨g, cap, cur, rfl, hb, hgg, rest⟩
  · exact .inl hn
  · exact .inr ⟨g, cap, cur, rfl, hb, by rw [he.below.block g (lt_of_block hgg)]; exact hgg, rest⟩
theorem own_geP {a b : World} {base : Nat} {t : TypeId} {size n : Nat} {v : Value} {xs : List Value} (h : b.ownsRow base t size v n xs) (hb : base = a.heap.size) : ∀ k, v.ownBlock = some k → a.heap.size ≤ k :=
  fun k hk => hb ▸ (h.lt k hk).1
theorem PGood.step {s rest : ByteArray} {n k m : Nat} {es : List Ent} {e : Ent} (h : PGood s n k rest es) (hk : k < n) (hf : firstS rest = some (e, m)) : PGood s n (k + 1) (rest.extract m rest.size) (es ++ [e]) := by
  refine ⟨by simp [h.len], ?_, ?_⟩
  · have := h.size; simp; omega
  · rw [h.spec, show n - k = (n - (k + 1)) + 1 by omega, parseS, hf]
    simp only [Option.map_map]
    congr 1; funext x; simp
theorem PGood.stop {s rest : ByteArray} {n k : Nat} {es : List Ent} (h : PGood s n k rest es) (hk : k < n) (hf : firstS rest = none) : parseT s = none := by
  rw [h.spec, show n - k = (n - (k + 1)) + 1 by omega, parseS, hf]; rfl
theorem PGood.fin {s rest : ByteArray} {n k : Nat} {es : List Ent} (h : PGood s n k rest es) (hk : k = n) : parseT s = if blankL rest.data.toList then some es else none := by
  subst hk
  rw [h.spec, Nat.sub_self, parseS]; split <;> simp
theorem first_size {s : ByteArray} {e : Ent} {m : Nat} (h : firstS s = some (e, m)) : m ≤ s.size := by
  unfold firstS at h; split at h
  · rename_i hc; simp only [Option.some.injEq, Prod.mk.injEq] at h; omega
  · simp at h

def ParseEnd (s : ByteArray) (w : World) (e : Ending) (w' : World) : Prop :=
  (parseT s = none ∧ e = .returned (.tuple #[.slice none 0 0, .iface 39 (.int .i64 4)]) ∧ Ext w w') ∨
  (∃ es v, parseT s = some es ∧ e = .returned (.tuple #[v, .nilIface]) ∧ w'.ownsRow w.heap.size 56 3 v es.length (rowOf es) ∧ Ext w w')

set_option maxHeartbeats 1000000 in
set_option maxRecDepth 20000 in
theorem parse_any (s : ByteArray) (w : World) (hs : s.size ≤ 281474976710656) :
    Calls Tryz.prog 83 #[.string s] w (ParseEnd s w) := by
  by_cases h0 : s.size = 0
  · have h0' : s.toList = [] := (toList_nil s).2 h0
    have HP : Hid (parseT s = none) := by unfold parseT Hid; rw [if_pos h0]
    clear h0
    go_enter Tryz.func83, Tryz.ntmps83
    go_wp2
    go_ret2
    exact .inl ⟨HP.out, rfl, Ext.refl _⟩
  · have hp : 0 < s.size := by omega
    have h0' : s.toList.isEmpty = false := by rw [List.isEmpty_eq_false_iff]; exact fun h => h0 ((toList_nil s).1 h)
    obtain ⟨i0, hi, hz0, hz1, hz2⟩ := info_parts Tryz.info56
    obtain ⟨nb, hnb⟩ : ∃ nb, s[0] = nb := ⟨_, rfl⟩
    have hlt := nb.toNat_lt
    go_enter Tryz.func83, Tryz.ntmps83
    go_wp2
    go_quiet (fail)
    go_wp2_with (at_make; refine wpList_make_own _ rfl _ _ 31 rfl w.heap.size 56 i0 (.agg #[.string ⟨#[]⟩, .string ⟨#[]⟩, .bool false]) 3 Tryz.underlying31 hi hz0 hz1 _ _ _ nb.toNat rfl rfl (by omega) ?b2 ?b3 (Nat.le_refl _) ?_)
    case b2 => rw [hz2]; omega
    case b3 => unfold maxLen; omega
    intro w1 hown hgrow
    have hx : Ext w w1 := ((Ext.refl w).drewN nq).grown hgrow (by intro k h; cases h)
    have HG : PGood s nb.toNat 0 (s.extract 1 s.size) [] := ⟨rfl, by simp, by
      unfold parseT; rw [if_neg (by omega), byteAt_eq s 0 hp, hnb]; simp⟩
    clear hgrow
    go_wp2_with fail
    go_loopw [5, 6, 21] (fun r l i wr => ∃ (k : Nat) (rest : ByteArray) (es : List Ent), k ≤ nb.toNat ∧ i = .int .i64 k ∧ r = .string rest ∧ wr.ownsRow w.heap.size 56 3 l es.length (rowOf es) ∧ Ext w wr ∧ PGood s nb.toNat k rest es)
      (fun _ _ i _ => nb.toNat - (intOf i).toNat)
    case atStart => exact ⟨0, _, [], Nat.zero_le _, rfl, rfl, hown, hx, HG⟩
    case round =>
      clear hown hx HG hnb h0' hp h0
      obtain ⟨k, rest, es, hk, rfl, rfl, hown, hx, hg⟩ := hrel
      have hrs : rest.size ≤ 281474976710656 := Nat.le_trans hg.size hs
      by_cases hlt : k < nb.toNat
      · cases hf : firstS rest with
        | none =>
          have HP : Hid (parseT s = none) := hg.stop hlt hf
          have HF : Hid (firstS rest = none) := hf
          clear hf hown hg
          go_wp2_with (go_at_call 117; refine (first_none rest _ hrs HF.out).mono ?_; rintro e w' ⟨rfl, hx1⟩)
          go_ret2
          exact .inl ⟨HP.out, rfl, (hx.trans hx1).alloc _⟩
        | some p =>
          obtain ⟨e, m⟩ := p
          have HF : Hid (firstS rest = some (e, m)) := hf
          have hm := first_size hf
          have hg' := hg.step hlt hf
          clear hf
          obtain ⟨key, val, gone⟩ := e
          go_wp2_with (first
            | (go_at_call 117; refine (first_some rest _ hrs _ m HF.out).mono ?_; rintro e w' ⟨rfl, hx1⟩; have hown1 := ownsRow_ext hown hx1)
            | (at_builtin; refine wpList_append_own _ rfl _ _ 31 rfl w.heap.size 56 i0 (.agg #[.string ⟨#[]⟩, .string ⟨#[]⟩, .bool false]) 3 40 Tryz.underlying31 hi hz0 hz1 hz2 rfl (by decide) _ _ _ rfl ((hown1.alloc _).alloc _) ⟨w'.heap.size + 1, 0, none⟩ 1 1 [.string key, .string val, .bool gone] rfl rfl ?c1 ?c2 ?c3 ?c4 ?c5 ?_))
          case c1 => exact news_cells (Blk.new' _ _ _ (by simp))
          case c2 => intro u hu; simp at hu; rcases hu with rfl | rfl | rfl <;> rfl
          case c3 => have := hg.len; unfold maxLen; omega
          case c4 => have := hg.len; omega
          case c5 => have := (hx.trans hx1).size; simp; omega
          intro v' w2 hown2 hgrow2 _
          have hx2 : Ext w w2 := (((hx.trans hx1).alloc _).alloc _).grown hgrow2 (own_geP hown rfl)
          have hown3 : w2.ownsRow w.heap.size 56 3 v' (es ++ [(⟨key, val, gone⟩ : Ent)]).length (rowOf (es ++ [(⟨key, val, gone⟩ : Ent)])) := by
            rw [rowOf_snoc]; simpa [entCells] using hown2
          clear hown2 hgrow2 hown1 hown hx hx1
          go_wp2
          go_roundw
          case rel => exact ⟨k + 1, _, _, by omega, by go_num, rfl, hown3, hx2, hg'⟩
          case measure => simp [intOf]; omega
      · have hkn : k = nb.toNat := by omega
        have HP : Hid (parseT s = if blankL rest.data.toList then some es else none) := hg.fin hkn
        clear hkn hg
        cases hb : blankL rest.data.toList with
        | true =>
          go_wp2_with (go_at_call 118; refine (blank_any rest _ (by omega)).mono ?_; rw [hb]; rintro e w' ⟨rfl, rfl⟩)
          go_ret2
          exact .inr ⟨es, _, by rw [HP.out, hb]; rfl, rfl, hown, hx⟩
        | false =>
          go_wp2_with (go_at_call 118; refine (blank_any rest _ (by omega)).mono ?_; rw [hb]; rintro e w' ⟨rfl, rfl⟩)
          go_ret2
          exact .inl ⟨by rw [HP.out, hb]; rfl, rfl, hx⟩

end Go.Proofs.YtkibgflbidkalaaGreatDoor

/- What Bytes answers. -/
namespace Go.Proofs.YtkibgflbidkalaaGreatDoor
open Go.RowKit Go.WideShapes
attribute [local go_sem ↓] Go.wp_at_zero Go.wp_at_succ

def lenT : List Ent → Nat
  | [] => 0
  | e :: r => 3 + e.key.size + e.val.size + lenT r
theorem lenT_snoc (es : List Ent) (e : Ent) : lenT (es ++ [e]) = lenT es + (3 + e.key.size + e.val.size) := by
  induction es with
  | nil => simp [lenT]
  | cons x r ih => simp only [List.cons_append, lenT, ih]; omega
theorem encE_len (e : Ent) : (encE e).length = 3 + e.key.size + e.val.size := by simp [encE]; omega
theorem lenT_enc (es : List Ent) : (es.flatMap encE).length = lenT es := by
  induction es with
  | nil => rfl
  | cons x r ih => simp only [List.flatMap_cons, List.length_append, lenT, ih, encE_len]
theorem faultsE_snoc (es : List Ent) (e : Ent) (h : faultsE es = 0) : faultsE (es ++ [e]) = faultE e := by
  induction es with
  | nil => simp only [List.nil_append, faultsE]; split <;> simp_all
  | cons x r ih =>
    simp only [List.cons_append, faultsE] at *
    by_cases hx : faultE x = 0
    · rw [if_pos hx] at *; exact ih h
    · rw [if_neg hx] at h; exact absurd h hx
theorem faultsE_pre (es : List Ent) (r : List Ent) (h : ¬ faultsE es = 0) : faultsE (es ++ r) = faultsE es := by
  induction es with
  | nil => simp [faultsE] at h
  | cons x t ih =>
    simp only [List.cons_append, faultsE] at *
    by_cases hx : faultE x = 0
    · rw [if_pos hx] at h; rw [if_pos hx, if_pos hx]; exact ih h
    · rw [if_neg hx, if_neg hx]

structure SGood (es : List Ent) (k size : Nat) : Prop where
  ok : faultsE (es.take k) = 0
  len : size = 1 + lenT (es.take k)
  small : size ≤ 1 + 27 * k
theorem take_snoc {es : List Ent} {k : Nat} {e : Ent} (he : es[k]? = some e) : es.take (k + 1) = es.take k ++ [e] := by
  rw [List.take_add_one, he]; rfl
theorem SGood.step {es : List Ent} {k size : Nat} {e : Ent} (h : SGood es k size) (he : es[k]? = some e) (hf : faultE e = 0) : SGood es (k + 1) (size + (3 + e.key.size + e.val.size)) := by
  have := fault_zero hf
  refine ⟨?_, ?_, ?_⟩
  · rw [take_snoc he, faultsE_snoc _ _ h.ok, hf]
  · rw [take_snoc he, lenT_snoc, h.len]; omega
  · have := h.small; omega
theorem SGood.stop {es : List Ent} {k size : Nat} {e : Ent} (h : SGood es k size) (he : es[k]? = some e) (hf : ¬ faultE e = 0) : faultsE es = faultE e := by
  have h1 : faultsE (es.take (k + 1)) = faultE e := by rw [take_snoc he, faultsE_snoc _ _ h.ok]
  have h2 := faultsE_pre (es.take (k + 1)) (es.drop (k + 1)) (by rw [h1]; exact hf)
  rw [List.take_append_drop] at h2
  rw [h2, h1]

def encTo (es : List Ent) (k : Nat) : List UInt8 := UInt8.ofNat es.length :: (es.take k).flatMap encE
theorem encTo_step {es : List Ent} {k : Nat} {e : Ent} (he : es[k]? = some e) : encTo es (k + 1) = encTo es k ++ encE e := by
  unfold encTo; rw [take_snoc he]; simp

theorem encTo_le (es : List Ent) (k : Nat) : (encTo es k).length ≤ (encT es).length := by
  have h : es.flatMap encE = (es.take k).flatMap encE ++ (es.drop k).flatMap encE := by rw [← List.flatMap_append, List.take_append_drop]
  unfold encTo encT; rw [h]; simp
theorem bc_app (a b : List UInt8) : Lib.byteCells (a ++ b) = Lib.byteCells a ++ Lib.byteCells b := by simp [Lib.byteCells]
theorem strC (s : ByteArray) : Lib.strCells s = Lib.byteCells s.data.toList := rfl
theorem wrap_u8 (n : Nat) (h : n < 256) : IntKind.u8.wrap (n : Int) = n := by
  simp [IntKind.wrap, IntKind.signed, IntKind.bits]; omega
theorem encE_cells (key val : ByteArray) (gone : Bool) (hk : key.size ≤ 8) (hv : val.size ≤ 16) : Lib.byteCells (encE ⟨key, val, gone⟩) = [.int .u8 (goneN gone), .int .u8 (IntKind.u8.wrap (key.size : Int)), .int .u8 (IntKind.u8.wrap (val.size : Int))] ++ Lib.byteCells key.data.toList ++ Lib.byteCells val.data.toList := by
  rw [wrap_u8 _ (by omega), wrap_u8 _ (by omega)]
  have h1 : key.size % 256 = key.size := by omega
  have h2 : val.size % 256 = val.size := by omega
  cases gone <;> simp [Lib.byteCells, encE, goneN, h1, h2]

def bytesT (es : List Ent) : List UInt8 × Int :=
  if ¬ faultsE es = 0 then ([], faultsE es) else if 64 < (encT es).length then ([], 2) else (encT es, 0)

set_option maxRecDepth 20000 in
set_option maxHeartbeats 2000000 in
theorem bytes_any (ao : Option Addr) (cap : Nat) (es : List Ent) (w : World) (hl : es.length ≤ 200) (hes : EntsAt w ao es) :
    Calls Tryz.prog 96 #[.slice ao es.length cap] w fun e w' => e = .returned (.tuple #[.string (txt (bytesT es).1), errV (bytesT es).2]) ∧ Ext w w' := by
  obtain ⟨i0, hi, hz0, hz1, hz2⟩ := info_parts Tryz.info5
  go_enter Tryz.func96, Tryz.ntmps96
  go_wp2_with fail
  go_loopw [4, 13] (fun z i wr => ∃ (k size : Nat), k ≤ es.length ∧ i = .int .i64 k ∧ z = .int .i64 size ∧ SGood es k size ∧ Ext w wr) (fun _ i _ => es.length - (intOf i).toNat)
  case atStart => exact ⟨0, 1, Nat.zero_le _, rfl, rfl, ⟨by simp [faultsE], by simp [lenT], by omega⟩, Ext.refl _⟩
  case round =>
    obtain ⟨k, size, hk, rfl, rfl, hg, hx⟩ := hrel
    by_cases hlt : k < es.length
    · obtain ⟨b, off, key, val, gone, rfl, he, h1, h2, h3⟩ := hes.get hlt
      have g1 := hx.cell h1
      have g2 := hx.cell h2
      have g3 := hx.cell h3
      have hsm := hg.small
      have HE : Hid (es[k]? = some (⟨key, val, gone⟩ : Ent)) := he
      clear h1 h2 h3 hes he
      by_cases hf : faultB key val gone = 0
      · have hkv := fault_zero (e := ⟨key, val, gone⟩) hf
        obtain ⟨hk8, hv16⟩ := hkv
        have HF : Hid (faultB key val gone = 0) := hf
        have hg' := hg.step HE.out hf
        clear hf
        dsimp only at hk8 hv16
        go_wp2_with (go_at_call 132; refine (check_ok key val gone _ HF.out).mono ?_; rintro e w' ⟨rfl, cc, rfl⟩)
        go_roundw
        case rel => exact ⟨k + 1, _, by omega, by go_num, by go_num, hg', by repeat (first | assumption | refine Ext.alloc ?_ _)⟩
        case measure => simp [intOf]; omega
      · have HF : Hid (¬ faultB key val gone = 0) := hf
        have HS : Hid (faultsE es = faultB key val gone) := hg.stop HE.out hf
        clear hf
        go_wp2_with (go_at_call 132; refine (check_bad key val gone _ HF.out).mono ?_; rintro e w' ⟨⟨nn, rfl, hnn⟩, cc, rfl⟩; have HN : Hid (nn = faultB key val gone) := hnn; clear hnn)
        go_ret2
        have hb : bytesT es = ([], faultB key val gone) := by unfold bytesT; rw [HS.out, if_pos HF.out]
        refine ⟨?_, by repeat (first | assumption | refine Ext.alloc ?_ _)⟩
        rw [hb, HN.out]; unfold errV; rw [if_neg HF.out]; rfl
    · have hkn : k = es.length := by omega
      subst hkn
      have hok : Hid (faultsE es = 0) := by have := hg.ok; rwa [List.take_length] at this
      have hsz : size = 1 + lenT es := by have := hg.len; rwa [List.take_length] at this
      have hsm := hg.small
      have henc : (encT es).length = size := by rw [hsz]; unfold encT; rw [List.length_cons, lenT_enc]; omega
      have HZ : Hid ((encT es).length = size) := henc
      clear hg hsz henc
      by_cases h64 : size ≤ 64
      · go_wp2_with (at_make; refine wpList_make_own _ rfl _ _ 118 rfl w.heap.size 5 i0 (.int .u8 0) 1 Tryz.underlying118 hi hz0 hz1 _ _ _ size rfl rfl (by omega) ?b2 ?b3 hx.size ?_)
        case b2 => rw [hz2]; omega
        case b3 => unfold maxLen; omega
        intro w1 hown hgrow
        have hx1 : Ext w w1 := hx.grown hgrow (by intro k h; cases h)
        clear hgrow hx
        go_wp2_with (at_builtin; refine wpList_append_own _ rfl _ _ 118 rfl w.heap.size 5 i0 (.int .u8 0) 1 1 Tryz.underlying118 hi hz0 hz1 hz2 rfl (by decide) _ _ _ rfl (hown.alloc _) ⟨w1.heap.size, 0, none⟩ 1 1 [.int .u8 (es.length : Int)] rfl rfl ?c1 ?c2 ?c3 ?c4 ?c5 ?_)
        case c1 => exact news_cells (Blk.new _ _ _)
        case c2 => intro u hu; simp at hu; subst hu; rfl
        case c3 => unfold maxLen; omega
        case c4 => omega
        case c5 => have := hx1.size; simp; omega
        intro v2 w2 hown2 hgrow2 _
        have hx2 : Ext w w2 := (hx1.alloc _).grown hgrow2 (own_geP hown rfl)
        have hown3 : w2.ownsRow w.heap.size 5 1 v2 (encTo es 0).length (Lib.byteCells (encTo es 0)) := by
          have e : Lib.byteCells (encTo es 0) = [.int .u8 (es.length : Int)] := by simp [Lib.byteCells, encTo]; omega
          rw [e]; simpa [encTo] using hown2
        clear hgrow2 hown2 hown hx1 hk hlt
        go_wp2_with fail
        go_loopw [8, 46] (fun v i wx => ∃ (k : Nat), k ≤ es.length ∧ i = .int .i64 k ∧ wx.ownsRow w.heap.size 5 1 v (encTo es k).length (Lib.byteCells (encTo es k)) ∧ Ext w wx) (fun _ i _ => es.length - (intOf i).toNat)
        case atStart => exact ⟨0, Nat.zero_le _, rfl, hown3, hx2⟩
        case round =>
          clear hown3 hx2
          obtain ⟨k, hk, rfl, hown, hx⟩ := hrel
          by_cases hlt : k < es.length
          · obtain ⟨b, off, key, val, gone, rfl, he, h1, h2, h3⟩ := hes.get hlt
            have g1 := hx.cell h1
            have g2 := hx.cell h2
            have g3 := hx.cell h3
            have hle := encTo_le es k
            rw [HZ.out] at hle
            have HE : Hid (es[k]? = some (⟨key, val, gone⟩ : Ent)) := he
            have hkv := fault_zero (faultsE_zero hok.out _ (List.mem_of_getElem? he))
            obtain ⟨hk8, hv16⟩ := hkv
            dsimp only at hk8 hv16
            clear h1 h2 h3 he
            have hlt8 := hown.lt
            have hcc := encE_cells key val gone hk8 hv16
            have HC : Hid (Lib.byteCells (encE ⟨key, val, gone⟩) = [.int .u8 (goneN gone), .int .u8 (IntKind.u8.wrap (key.size : Int)), .int .u8 (IntKind.u8.wrap (val.size : Int))] ++ Lib.byteCells key.data.toList ++ Lib.byteCells val.data.toList) := hcc
            clear hcc
            go_wp2_with fail
            go_region_held3 (fun w' => w'.cell? ⟨wr.heap.size, 0, none⟩ = some (.string key) ∧ w'.cell? ⟨wr.heap.size, 1, none⟩ = some (.string val) ∧ w'.cell? ⟨wr.heap.size, 2, none⟩ = some (.bool gone))
              (first
                | go_keep
                | (go_split_ands
                   refine ⟨?_, ?_, ?_⟩
                   · (rw [hgrow.cell_far _ (by simp; omega) (by intro hh; have := hlt8 _ hh.symm; simp at this)]; simp [go_sem])
                   · (rw [hgrow.cell_far _ (by simp; omega) (by intro hh; have := hlt8 _ hh.symm; simp at this)]; simp [go_sem])
                   · (rw [hgrow.cell_far _ (by simp; omega) (by intro hh; have := hlt8 _ hh.symm; simp at this)]; simp [go_sem])))
              (first
                | (go_at_call 133; refine (gone_any gone _).mono ?_; rintro e w' ⟨rfl, rfl⟩)
                | (refine step_append_lies _ (by rfl) _ _ _ (by rfl) w.heap.size 5 i0 _ 1 1 Tryz.underlying118 hi hz0 hz1 hz2 rfl (by decide) _ _ _ (by rfl) (((hown.alloc _).alloc _).drew) ⟨wr.heap.size + 1, 0, none⟩ 3 3 [.int .u8 (goneN gone), .int .u8 (IntKind.u8.wrap (key.size : Int)), .int .u8 (IntKind.u8.wrap (val.size : Int))] (by rfl) (by rfl) (by exact news_cells (Blk.drew (Blk.new' (wr.alloc _) _ _ (n := wr.heap.size + 1) (by simp)))) (by simp [Value.oneCell']) (by decide) (by unfold maxLen; omega) (by omega) (by have := hx.size; simp; omega) (wr.heap.size + 2) (by simp) ?_; intro gg cap2 w3 hown3 hgrow hat hlt3))
            have hx3 : Ext w w3 := (((hx.alloc _).alloc _).drew).grown hgrow (own_geP hown rfl)
            have hgne : ¬ wr.heap.size = gg := by
              rcases hat with h | h
              · have := (hlt8 _ h).2; omega
              · omega
            obtain ⟨q1, q2, q3⟩ := ‹w3.cell? ⟨wr.heap.size, 0, none⟩ = some (.string key) ∧ w3.cell? ⟨wr.heap.size, 1, none⟩ = some (.string val) ∧ w3.cell? ⟨wr.heap.size, 2, none⟩ = some (.bool gone)›
            have hlt4 : wr.heap.size < w3.heap.size := by have := hgrow.size; simp at this; omega
            clear hgrow hat hown hlt8 hx g1 g2 g3
            go_wp2_with (at_builtin; refine Lib.wpList_append_own_string _ rfl (.tmp 64) (.tmp 66) 118 9 rfl w.heap.size 5 i0 Tryz.underlying118 Tryz.underlying9 hi hz0 hz1 hz2 _ _ _ rfl hown3 key rfl ?d1 ?d2 hx3.size ?_)
            case d1 => unfold maxLen; omega
            case d2 => omega
            intro v4 w4 hown4 hgrow4 _
            have q2' : w4.cell? ⟨wr.heap.size, 1, none⟩ = some (.string val) := by
              rw [hgrow4.cell_far _ hlt4 (by simpa [Value.ownBlock] using hgne)]; exact q2
            have hx4 : Ext w w4 := hx3.grown hgrow4 (own_geP hown3 rfl)
            clear hgrow4 hown3 q1 q2 q3
            go_wp2_with (at_builtin; refine Lib.wpList_append_own_string _ rfl (.tmp 68) (.tmp 70) 118 9 rfl w.heap.size 5 i0 Tryz.underlying118 Tryz.underlying9 hi hz0 hz1 hz2 _ _ _ rfl hown4 val rfl ?e1 ?e2 hx4.size ?_)
            case e1 => unfold maxLen; omega
            case e2 => omega
            intro v5 w5 hown5 hgrow5 _
            have hx5 : Ext w w5 := hx4.grown hgrow5 (own_geP hown4 rfl)
            have hown6 : w5.ownsRow w.heap.size 5 1 v5 (encTo es (k + 1)).length (Lib.byteCells (encTo es (k + 1))) := by
              rw [encTo_step HE.out, bc_app, HC.out]
              rw [strC, strC] at hown5
              have el : (encTo es k ++ encE ⟨key, val, gone⟩).length = (encTo es k).length + 3 + key.size + val.size := by rw [List.length_append, encE_len]; dsimp only; omega
              rw [el]
              simpa [List.append_assoc] using hown5
            clear hgrow5 hown5 hown4 q2'
            go_wp2
            go_roundw
            case rel => exact ⟨k + 1, by omega, by go_num, hown6, hx5⟩
            case measure => simp [intOf]; omega
          · have hkn : k = es.length := by omega
            subst hkn
            have henc : encTo es es.length = encT es := by unfold encTo encT; rw [List.take_length]
            rw [henc] at hown
            have HB : Hid (bytesT es = (encT es, 0)) := by unfold bytesT Hid; rw [if_neg (by simp [hok.out]), if_neg (by rw [HZ.out]; omega)]
            obtain ⟨hlen, hcase⟩ := hown
            rcases hcase with ⟨_, h0⟩ | ⟨gg, cap2, cur, rfl, _, hh, _, _, _, htake⟩
            · simp [encT] at h0
            · have hcv := run_convert_bytes_back (P := Tryz.prog) wr 118 9 5 ⟨gg, 0, none⟩ cap2 (encT es) Tryz.underlying118 Tryz.underlying5 Tryz.underlying9 (fun j hj => by
                rw [add_plain, Nat.zero_add]
                have hj2 : (Lib.byteCells (encT es))[j]? = some (.int .u8 ((encT es)[j].toNat : Int)) := by simp [Lib.byteCells, hj]
                rw [← htake, List.getElem?_take] at hj2
                split at hj2
                · simp only [World.cell?, hh]; simpa using hj2
                · simp at hj2)
              clear hlen htake henc hes
              go_wp2
              go_ret2
              refine ⟨?_, hx⟩
              rw [HB.out]; rfl
      · have HB : Hid (bytesT es = ([], 2)) := by unfold bytesT Hid; rw [if_neg (by simp [hok.out]), if_pos (by rw [HZ.out]; omega)]
        clear hes
        go_wp2_with fail
        go_ret2
        refine ⟨?_, hx⟩
        rw [HB.out]; rfl

end Go.Proofs.YtkibgflbidkalaaGreatDoor
