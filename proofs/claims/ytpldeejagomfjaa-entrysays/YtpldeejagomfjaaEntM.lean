
/- Entries and their bytes, in plain words: what is written, what is read, and that what is written is read. -/
import Derived.Test.YtpldeejagomfjaaEntC
import Derived.Lib.IndexBytes
namespace Go.Proofs.Ytpldeejagomfjaa

def byteAt (s : ByteArray) (i : Nat) : Nat := (s.data.toList[i]?.getD 0).toNat
def txt (l : List UInt8) : ByteArray := ⟨l.toArray⟩
def faultE (e : Ent) : Int := faultB e.key e.val e.gone

/-- The first entry of a text, and how many bytes it takes. -/
def firstS (s : ByteArray) : Option (Ent × Nat) :=
  if 3 ≤ s.size ∧ byteAt s 0 ≤ 1 ∧ 3 + byteAt s 1 + byteAt s 2 ≤ s.size ∧
      faultB (s.extract 3 (3 + byteAt s 1)) (s.extract (3 + byteAt s 1) (3 + byteAt s 1 + byteAt s 2)) (byteAt s 0 == 1) = 0 then
    some (⟨s.extract 3 (3 + byteAt s 1), s.extract (3 + byteAt s 1) (3 + byteAt s 1 + byteAt s 2), byteAt s 0 == 1⟩, 3 + byteAt s 1 + byteAt s 2)
  else none
/-- n entries, and behind them noughts alone. -/
def parseS : Nat → ByteArray → Option (List Ent)
  | 0, s => if blankL s.data.toList then some [] else none
  | n + 1, s => match firstS s with
    | none => none
    | some (e, k) => (parseS n (s.extract k s.size)).map (e :: ·)
def parseT (s : ByteArray) : Option (List Ent) := if s.size = 0 then none else parseS (byteAt s 0) (s.extract 1 s.size)

def encE (e : Ent) : List UInt8 := (if e.gone then 1 else 0) :: UInt8.ofNat e.key.size :: UInt8.ofNat e.val.size :: (e.key.data.toList ++ e.val.data.toList)
def encT (es : List Ent) : List UInt8 := UInt8.ofNat es.length :: es.flatMap encE
/-- The first fault among entries; 0: there is none. -/
def faultsE : List Ent → Int
  | [] => 0
  | e :: r => if faultE e = 0 then faultsE r else faultE e

theorem byteAt_eq (s : ByteArray) (i : Nat) (h : i < s.size) : byteAt s i = s[i].toNat := by
  unfold byteAt; rw [get_toList s i h]; rfl
theorem ba_ext {a b : ByteArray} (h : a.data.toList = b.data.toList) : a = b := by
  apply ByteArray.ext; exact Array.toList_inj.1 h
theorem toList_nil (s : ByteArray) : s.toList = [] ↔ s.size = 0 := by
  rw [ByteArray.toList_eq]
  rw [Lib.size_eq]
  constructor
  · intro h; rw [h]; rfl
  · intro h; exact List.eq_nil_of_length_eq_zero h
theorem fault_zero {e : Ent} (h : faultE e = 0) : e.key.size ≤ 8 ∧ e.val.size ≤ 16 := by
  unfold faultE faultB at h
  split at h
  · simp at h
  · split at h
    · simp at h
    · rename_i h2; omega
theorem blank_zeros (n : Nat) : blankL (List.replicate n 0) = true := by
  unfold blankL; simp

theorem first_enc (e : Ent) (r : List UInt8) (h : faultE e = 0) : firstS (txt (encE e ++ r)) = some (e, (encE e).length) := by
  obtain ⟨hk, hv⟩ := fault_zero h
  have hd : (txt (encE e ++ r)).data.toList = encE e ++ r := by simp [txt]
  have hs : (txt (encE e ++ r)).size = 3 + e.key.size + e.val.size + r.length := by
    rw [Lib.size_eq, hd]; simp [encE]; omega
  have b0 : byteAt (txt (encE e ++ r)) 0 = if e.gone then 1 else 0 := by
    unfold byteAt; rw [hd]; simp only [encE]; cases e.gone <;> rfl
  have b1 : byteAt (txt (encE e ++ r)) 1 = e.key.size := by
    unfold byteAt; rw [hd]; simp [encE]; omega
  have b2 : byteAt (txt (encE e ++ r)) 2 = e.val.size := by
    unfold byteAt; rw [hd]; simp [encE]; omega
  have hx1 : (txt (encE e ++ r)).extract 3 (3 + e.key.size) = e.key := by
    apply ba_ext; rw [Lib.extract_data, hd]
    rw [show 3 + e.key.size - 3 = e.key.data.toList.length by rw [← Lib.size_eq]; omega]; simp only [encE, List.cons_append, List.drop_succ_cons, List.drop_zero, List.append_assoc, List.take_left]
  have hx2 : (txt (encE e ++ r)).extract (3 + e.key.size) (3 + e.key.size + e.val.size) = e.val := by
    apply ba_ext; rw [Lib.extract_data, hd]
    have : 3 + e.key.size = e.key.data.toList.length + 1 + 1 + 1 := by rw [← Lib.size_eq]; omega
    rw [this, show e.key.data.toList.length + 1 + 1 + 1 + e.val.size - (e.key.data.toList.length + 1 + 1 + 1) = e.val.data.toList.length by rw [← Lib.size_eq e.val]; omega]
    simp [encE]
  have hl : (encE e).length = 3 + e.key.size + e.val.size := by simp [encE]; omega
  have hg : (byteAt (txt (encE e ++ r)) 0 == 1) = e.gone := by rw [b0]; cases e.gone <;> rfl
  unfold firstS
  rw [hg, b1, b2, hx1, hx2, hl]
  rw [if_pos ⟨by omega, by rw [b0]; split <;> omega, by omega, h⟩]

theorem parse_enc (es : List Ent) (n : Nat) (h : ∀ e ∈ es, faultE e = 0) : parseS es.length (txt (es.flatMap encE ++ List.replicate n 0)) = some es := by
  induction es with
  | nil => simp only [List.length_nil, List.flatMap_nil, List.nil_append, parseS]; rw [if_pos (by simp [txt, blank_zeros])]
  | cons e r ih =>
    simp only [List.length_cons, List.flatMap_cons, List.append_assoc, parseS]
    rw [first_enc e _ (h e (by simp))]
    simp only
    have : (txt (encE e ++ (r.flatMap encE ++ List.replicate n 0))).extract (encE e).length (txt (encE e ++ (r.flatMap encE ++ List.replicate n 0))).size = txt (r.flatMap encE ++ List.replicate n 0) := by
      apply ba_ext; rw [Lib.extract_to_end]; simp [txt]
    rw [this, ih (fun x hx => h x (by simp [hx]))]
    rfl

theorem parse_encT (es : List Ent) (n : Nat) (h : ∀ e ∈ es, faultE e = 0) (hl : es.length < 256) : parseT (txt (encT es ++ List.replicate n 0)) = some es := by
  have hd : (txt (encT es ++ List.replicate n 0)).data.toList = encT es ++ List.replicate n 0 := by simp [txt]
  have h0 : ¬ (txt (encT es ++ List.replicate n 0)).size = 0 := by rw [Lib.size_eq, hd]; simp [encT]
  unfold parseT
  rw [if_neg h0]
  have hb : byteAt (txt (encT es ++ List.replicate n 0)) 0 = es.length := by unfold byteAt; rw [hd]; simp [encT]; omega
  have : (txt (encT es ++ List.replicate n 0)).extract 1 (txt (encT es ++ List.replicate n 0)).size = txt (es.flatMap encE ++ List.replicate n 0) := by
    apply ba_ext; rw [Lib.extract_to_end, hd]; simp [encT, txt]
  rw [hb, this]
  exact parse_enc es n h

theorem faultsE_zero {es : List Ent} (h : faultsE es = 0) : ∀ e ∈ es, faultE e = 0 := by
  induction es with
  | nil => simp
  | cons e r ih =>
    unfold faultsE at h
    by_cases he : faultE e = 0
    · rw [if_pos he] at h
      intro x hx
      rcases List.mem_cons.1 hx with rfl | hx
      · exact he
      · exact ih h x hx
    · rw [if_neg he] at h; exact absurd h he

end Go.Proofs.Ytpldeejagomfjaa
