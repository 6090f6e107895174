/- BatA BatB BatC BatD BatE. -/
import Derived.Test.YtkibgflbidkalaaGreatDoorShelfJ
import Derived.Test.YtkibgflbidkalaaGreatDoorEntKJ
import Derived.Test.YtkibgflbidkalaaGreatDoorEntLJ
import Derived.Laws.MakeOwn
import Derived.Test.YtkibgflbidkalaaGreatDoorEntAppJ
import Derived.Test.YtkibgflbidkalaaGreatDoorEntAJ

/- Changes as a text: plain, check, word, change. -/
namespace Go.Proofs.YtkibgflbidkalaaGreatDoor
open Go.RowKit Go.WideShapes

def plainC (c : UInt8) : Bool := (decide (97 ≤ c.toNat) && decide (c.toNat ≤ 122)) || (decide (48 ≤ c.toNat) && decide (c.toNat ≤ 57))
def plainS (s : ByteArray) : Bool := s.data.toList.all plainC
theorem take_byteP (s : ByteArray) (k : Nat) (h : k < s.size) : s.data.toList.take (k + 1) = s.data.toList.take k ++ [s[k]] := by
  rw [List.take_succ_eq_append_getElem (by simpa using h)]; rfl
theorem plain_stop {s : ByteArray} {k : Nat} (h : k < s.size) (hc : plainC s[k] = false) : plainS s = false := by
  unfold plainS
  rw [List.all_eq_false]
  refine ⟨s[k], ?_, by simp [hc]⟩
  have : s.data.toList[k]'(by simpa using h) = s[k] := rfl
  rw [← this]
  exact List.getElem_mem _
set_option maxHeartbeats 1000000 in
theorem plain_any (s : ByteArray) (w : World) (hs : s.size ≤ 9223372036854775807) :
    Calls Tryz.prog 158 #[.string s] w fun e w' => e = .returned (.bool (plainS s)) ∧ w' = w := by
  go_enter Tryz.func158, Tryz.ntmps158
  go_wp2
  go_loop [7] (fun i => ∃ k : Nat, k ≤ s.size ∧ i = .int .i64 k ∧ (s.data.toList.take k).all plainC = true) (fun i => s.size - (intOf i).toNat)
  case atStart => exact ⟨0, Nat.zero_le _, rfl, rfl⟩
  case round =>
    obtain ⟨k, hk, rfl, hall⟩ := hrel
    by_cases hlt : k < s.size
    · cases hc : plainC s[k] with
      | true =>
        have HS : Hid ((s.data.toList.take (k + 1)).all plainC = true) := by
          rw [Hid, take_byteP s k hlt, List.all_append, hall]; simp [hc]
        clear hall
        have hc' : (97 ≤ (s[k].toNat : Int) ∧ (s[k].toNat : Int) ≤ 122) ∨ (48 ≤ (s[k].toNat : Int) ∧ (s[k].toNat : Int) ≤ 57) := by
          unfold plainC at hc; simp at hc; omega
        clear hc
        rcases hc' with ⟨h1, h2⟩ | ⟨h1, h2⟩
        all_goals
          go_wp2
          go_round
          case rel => exact ⟨k + 1, by omega, by go_num, HS.out⟩
          case measure => simp [intOf]; omega
      | false =>
        have HS : Hid (plainS s = false) := plain_stop hlt hc
        clear hall
        have hc' : (s[k].toNat : Int) < 48 ∨ (57 < (s[k].toNat : Int) ∧ (s[k].toNat : Int) < 97) ∨ 122 < (s[k].toNat : Int) := by
          unfold plainC at hc; simp at hc; omega
        clear hc
        rcases hc' with h1 | ⟨h1, h2⟩ | h1
        all_goals
          go_wp2
          go_ret
          exact ⟨by rw [HS.out]; rfl, rfl⟩
    · have HS : Hid (plainS s = true) := by
        rw [List.take_of_length_le (by simp; omega)] at hall
        exact hall
      clear hall
      go_wp2
      go_ret
      exact ⟨by rw [HS.out]; rfl, rfl⟩
def checkC (k v : ByteArray) (g : Bool) : Int := if ¬ faultB k v g = 0 then faultB k v g else if plainS k && plainS v then 0 else 3
set_option maxHeartbeats 1000000 in
theorem bcheck_any (k v : ByteArray) (g : Bool) (w : World) (hk : k.size ≤ 9223372036854775807) (hv : v.size ≤ 9223372036854775807) :
    Calls Tryz.prog 128 #[.agg #[.string k, .string v, .bool g]] w fun e w' => e = .returned (errV (checkC k v g)) ∧ Ext w w' := by
  have HC : Hid (∀ W, Calls Tryz.prog 132 #[.agg #[.string k, .string v, .bool g]] W fun e w' => e = .returned (errV (faultB k v g)) ∧ Ext W w') := fun W => by
    refine (check_any k v g W).mono ?_
    rintro e w' ⟨rfl, c, rfl⟩
    exact ⟨rfl, (Ext.refl W).alloc _⟩
  by_cases hf : faultB k v g = 0
  · have HC0 : Hid (∀ W, Calls Tryz.prog 132 #[.agg #[.string k, .string v, .bool g]] W fun e w' => e = .returned .nilIface ∧ Ext W w') := fun W => by
      have := HC.out W; rw [hf] at this; exact this
    have hx0 : Ext w (w.alloc (.cells #[.string k, .string v, .bool g] 56)) := (Ext.refl w).alloc _
    have b1 : Blk (w.alloc (.cells #[.string k, .string v, .bool g] 56)) w.heap.size #[.string k, .string v, .bool g] 56 := Blk.new w _ _
    have HP : Hid (∀ (s : ByteArray) W, s.size ≤ 9223372036854775807 → Calls Tryz.prog 158 #[.string s] W fun e w' => e = .returned (.bool (plainS s)) ∧ w' = W) := fun s W h => plain_any s W h
    cases hp : plainS k with
    | true =>
      have HPK : Hid (∀ W, Calls Tryz.prog 158 #[.string k] W fun e w' => e = .returned (.bool true) ∧ w' = W) := fun W => by have := HP.out k W hk; rw [hp] at this; exact this
      cases hq : plainS v with
      | true =>
        have HPV : Hid (∀ W, Calls Tryz.prog 158 #[.string v] W fun e w' => e = .returned (.bool true) ∧ w' = W) := fun W => by have := HP.out v W hv; rw [hq] at this; exact this
        have HR : Hid (checkC k v g = 0) := by unfold checkC Hid; rw [if_neg (by simp [hf]), if_pos (by simp [hp, hq])]
        clear hf hp hq HC HP
        have t1 : True := trivial
        go_enter Tryz.func128, Tryz.ntmps128
        go_wp2_with (first
          | (go_at_call 132; refine (HC0.out _).mono ?_; rintro e w1 ⟨rfl, hx1⟩; have c0 : w1.cell? ⟨w.heap.size, 0, none⟩ = some (.string k) := (b1.ext hx1).cell 0; have c1 : w1.cell? ⟨w.heap.size, 1, none⟩ = some (.string v) := (b1.ext hx1).cell 1)
          | (go_at_call 158; have _t := t1; refine (HPK.out _).mono ?_; rintro e w2 ⟨rfl, rfl⟩; clear t1)
          | (go_at_call 158; refine (HPV.out _).mono ?_; rintro e w3 ⟨rfl, rfl⟩))
        go_ret
        exact ⟨by rw [HR.out]; rfl, hx0.trans hx1⟩
      | false =>
        have HPV : Hid (∀ W, Calls Tryz.prog 158 #[.string v] W fun e w' => e = .returned (.bool false) ∧ w' = W) := fun W => by have := HP.out v W hv; rw [hq] at this; exact this
        have HR : Hid (checkC k v g = 3) := by unfold checkC Hid; rw [if_neg (by simp [hf]), if_neg (by simp [hp, hq])]
        clear hf hp hq HC HP
        have t1 : True := trivial
        go_enter Tryz.func128, Tryz.ntmps128
        go_wp2_with (first
          | (go_at_call 132; refine (HC0.out _).mono ?_; rintro e w1 ⟨rfl, hx1⟩; have c0 : w1.cell? ⟨w.heap.size, 0, none⟩ = some (.string k) := (b1.ext hx1).cell 0; have c1 : w1.cell? ⟨w.heap.size, 1, none⟩ = some (.string v) := (b1.ext hx1).cell 1)
          | (go_at_call 158; have _t := t1; refine (HPK.out _).mono ?_; rintro e w2 ⟨rfl, rfl⟩; clear t1)
          | (go_at_call 158; refine (HPV.out _).mono ?_; rintro e w3 ⟨rfl, rfl⟩))
        go_ret
        exact ⟨by rw [HR.out]; rfl, hx0.trans hx1⟩
    | false =>
      have HPK : Hid (∀ W, Calls Tryz.prog 158 #[.string k] W fun e w' => e = .returned (.bool false) ∧ w' = W) := fun W => by have := HP.out k W hk; rw [hp] at this; exact this
      have HR : Hid (checkC k v g = 3) := by unfold checkC Hid; rw [if_neg (by simp [hf]), if_neg (by simp [hp])]
      clear hf hp HC HP
      go_enter Tryz.func128, Tryz.ntmps128
      go_wp2_with (first
        | (go_at_call 132; refine (HC0.out _).mono ?_; rintro e w1 ⟨rfl, hx1⟩; have c0 : w1.cell? ⟨w.heap.size, 0, none⟩ = some (.string k) := (b1.ext hx1).cell 0)
        | (go_at_call 158; refine (HPK.out _).mono ?_; rintro e w2 ⟨rfl, rfl⟩))
      go_ret
      exact ⟨by rw [HR.out]; rfl, hx0.trans hx1⟩
  · have HCF : Hid (∀ W, Calls Tryz.prog 132 #[.agg #[.string k, .string v, .bool g]] W fun e w' => e = .returned (.iface 39 (.int .i64 (faultB k v g))) ∧ Ext W w') := fun W => by
      have := HC.out W; unfold errV at this; rw [if_neg hf] at this; exact this
    have HR : Hid (errV (checkC k v g) = .iface 39 (.int .i64 (faultB k v g))) := by unfold checkC errV Hid; rw [if_pos hf, if_neg hf]
    clear hf HC
    rw [HR.out]
    generalize faultB k v g = f at *
    go_enter Tryz.func128, Tryz.ntmps128
    go_wp2_with (go_at_call 132; refine (HCF.out _).mono ?_; rintro e w1 ⟨rfl, hx1⟩)
    go_ret
    exact ⟨rfl, ((Ext.refl w).alloc _).trans hx1⟩
def wordE (k v : ByteArray) (g : Bool) : ByteArray := if g then k else k ++ ⟨#[61]⟩ ++ v
set_option maxHeartbeats 1000000 in
theorem word_any (k v : ByteArray) (g : Bool) (w : World) (hk : k.size ≤ 1000) (hv : v.size ≤ 1000) :
    Calls Tryz.prog 129 #[.agg #[.string k, .string v, .bool g]] w fun e w' => e = .returned (.string (wordE k v g)) ∧ Ext w w' := by
  cases g with
  | true =>
    go_enter Tryz.func129, Tryz.ntmps129
    go_wp2
    go_ret
    exact ⟨rfl, (Ext.refl w).alloc _⟩
  | false =>
    go_enter Tryz.func129, Tryz.ntmps129
    go_wp2
    go_ret
    exact ⟨rfl, (Ext.refl w).alloc _⟩
end Go.Proofs.YtkibgflbidkalaaGreatDoor

/- Changes as a text: change, Text. -/
namespace Go.Proofs.YtkibgflbidkalaaGreatDoor
open Go.RowKit Go.WideShapes

theorem glob_ext {w w' : World} (h : Tryz.Glob w) (hx : Ext w w') : Tryz.Glob w' := by
  obtain ⟨m, hm⟩ := h
  exact ⟨m, hx.cell hm⟩
set_option maxHeartbeats 1000000 in
theorem sclone_any (s : ByteArray) (w : World) (hs : s.size ≤ 281474976710656) :
    Calls Tryz.prog 127 #[.string s] w fun e w' => e = .returned (.string s) ∧ Ext w w' := by
  have HC : Hid (Calls Tryz.prog 157 #[.string s] w fun e w' => e = .returned (.string s) ∧ Ext w w') := (Tryz.stringslite_Clone s w hs).mono fun e w' ⟨h1, h2⟩ => ⟨h1, ⟨h2⟩⟩
  go_enter Tryz.func127, Tryz.ntmps127
  go_wp2_with (go_at_call 157; refine HC.out.mono ?_; rintro e w1 ⟨rfl, hx1⟩)
  go_ret
  exact ⟨rfl, hx1⟩
def cutE (s : ByteArray) : ByteArray × ByteArray × Bool := (⟨(Lib.cut s.data.toList [61]).1.toArray⟩, ⟨(Lib.cut s.data.toList [61]).2.1.toArray⟩, (Lib.cut s.data.toList [61]).2.2)
def changeE (s : ByteArray) : Ent := ⟨(cutE s).1, (cutE s).2.1, !(cutE s).2.2⟩
theorem cutE_le (s : ByteArray) : (cutE s).1.size ≤ s.size ∧ (cutE s).2.1.size ≤ s.size := by
  unfold cutE Lib.cut
  have e : s.data.size = s.size := rfl
  split
  · constructor
    · show (List.take _ s.data.toList).toArray.size ≤ s.size
      first | (simp; done) | (simp; omega)
    · show (List.drop _ s.data.toList).toArray.size ≤ s.size
      first | (simp; done) | (simp; omega)
  · constructor
    · show s.data.toList.toArray.size ≤ s.size
      simp [e]
    · show ([] : List UInt8).toArray.size ≤ s.size
      simp
set_option maxHeartbeats 2000000 in
theorem change_any (s : ByteArray) (w : World) (hs : s.size < 4294967281) (hg : Tryz.Glob w) :
    Calls Tryz.prog 93 #[.string s] w fun e w' => e = .returned (entV (changeE s)) ∧ Ext w w' := by
  have hle := cutE_le s
  have HC : Hid (∀ W, Ext w W → Calls Tryz.prog 126 #[.string s, .string ⟨#[61]⟩] W fun e w' => e = .returned (.tuple #[.string (cutE s).1, .string (cutE s).2.1, .bool (cutE s).2.2]) ∧ Ext W w') := fun W hx => by
    obtain ⟨m, hm⟩ := glob_ext hg hx
    refine (Tryz.strings_Cut s ⟨#[61]⟩ m W hs hm).mono ?_
    rintro e w' ⟨rfl, n, rfl⟩
    exact ⟨rfl, (Ext.refl W).drewN n⟩
  have HK : Hid (∀ (t : ByteArray) W, t.size ≤ s.size → Calls Tryz.prog 127 #[.string t] W fun e w' => e = .returned (.string t) ∧ Ext W w') := fun t W ht => sclone_any t W (by omega)
  unfold changeE
  generalize cutE s = c at *
  obtain ⟨k, v, f⟩ := c
  dsimp only at hle HC ⊢
  obtain ⟨hk, hv⟩ := hle
  have hx0 : Ext w (w.alloc (.cells #[.string ⟨#[]⟩, .string ⟨#[]⟩, .bool false] 56)) := (Ext.refl w).alloc _
  have b2 : Blk (w.alloc (.cells #[.string ⟨#[]⟩, .string ⟨#[]⟩, .bool false] 56)) w.heap.size #[.string ⟨#[]⟩, .string ⟨#[]⟩, .bool false] 56 := Blk.new w _ _
  have t1 : True := trivial
  go_enter Tryz.func93, Tryz.ntmps93
  go_wp2_with (first
    | (go_at_call 126; refine (HC.out _ hx0).mono ?_; rintro e w1 ⟨rfl, hx1⟩)
    | (go_at_call 127; have _t := t1; refine (HK.out k _ hk).mono ?_; rintro e w2 ⟨rfl, hx2⟩; clear t1)
    | (go_at_call 127; refine (HK.out v _ hv).mono ?_; rintro e w3 ⟨rfl, hx3⟩; have B2 := ((b2.ext hx1).ext hx2).ext hx3; have c0 := B2.cell 0; have c1 := B2.cell 1; have c2 := B2.cell 2; have f0 := B2.free 0; have f1 := B2.free 1; have f2 := B2.free 2))
  have E2 := ((B2.set 0 (.string k)).set 1 (.string v)).set 2 (.bool !f)
  have e0 := E2.cell 0
  have e1 := E2.cell 1
  have e2 := E2.cell 2
  refine bodyPost_ret (v := .agg #[.string k, .string v, .bool !f]) (by simp [results, Tryz.results93, go_sem, e0, e1, e2]) rfl ⟨rfl, ?_⟩
  exact (((((hx0.trans hx1).trans hx2).trans hx3).set (p := ⟨w.heap.size, 0, none⟩) (Nat.le_refl _) _).set (p := ⟨w.heap.size, 1, none⟩) (Nat.le_refl _) _).set (p := ⟨w.heap.size, 2, none⟩) (Nat.le_refl _) _
def textS : List Ent → Int
  | [] => 0
  | e :: es => if ¬ checkC e.key e.val e.gone = 0 then checkC e.key e.val e.gone else textS es
def wordsE (es : List Ent) : List ByteArray := es.map fun e => wordE e.key e.val e.gone
def joinE (es : List Ent) : ByteArray := ⟨(Lib.join ((wordsE es).map (·.data.toList)) [32]).toArray⟩
def textT (es : List Ent) : ByteArray × Int := if es.length = 0 ∨ 4 < es.length then (⟨#[]⟩, 2) else if ¬ textS es = 0 then (⟨#[]⟩, textS es) else (joinE es, 0)
theorem textS_step (es : List Ent) (k : Nat) (e : Ent) (h : es[k]? = some e) : textS (es.drop k) = if ¬ checkC e.key e.val e.gone = 0 then checkC e.key e.val e.gone else textS (es.drop (k + 1)) := by
  have : es.drop k = e :: es.drop (k + 1) := by
    rw [List.drop_eq_getElem_cons (List.getElem?_eq_some_iff.1 h).1]
    rw [(List.getElem?_eq_some_iff.1 h).2]
  rw [this]
  rfl
theorem wordsE_take (es : List Ent) (k : Nat) (e : Ent) (h : es[k]? = some e) : wordsE (es.take (k + 1)) = wordsE (es.take k) ++ [wordE e.key e.val e.gone] := by
  unfold wordsE
  rw [List.take_add_one, h]
  simp
theorem checkC_ok {k v : ByteArray} {g : Bool} (h : checkC k v g = 0) : k.size ≤ 8 ∧ v.size ≤ 16 := by
  unfold checkC at h
  by_cases hf : faultB k v g = 0
  · unfold faultB at hf
    split at hf
    · cases hf
    · split at hf
      · cases hf
      · rename_i h2; simp at h2; omega
  · rw [if_pos hf] at h; exact absurd h hf
theorem Tryz.infoStr : (Tryz.prog.info? 9).map (fun i => (i.zero, i.size, i.bytes)) = some (some (.string ⟨#[]⟩), 1, 16) := by kernel_rfl
def Small (es : List Ent) : Prop := ∀ e ∈ es, e.key.size ≤ 9223372036854775807 ∧ e.val.size ≤ 9223372036854775807
def TextEnd (w : World) (r : ByteArray × Int) (e : Ending) (w' : World) : Prop := e = .returned (.tuple #[.string r.1, errV r.2]) ∧ Ext w w'
theorem join_le (es : List Ent) (hl : es.length ≤ 4) (h : ∀ e ∈ es, e.key.size ≤ 8 ∧ e.val.size ≤ 16) : (Lib.join ((wordsE es).map (·.data.toList)) [32]).length ≤ 140737488355328 := by
  have hw : ∀ x ∈ (wordsE es).map (·.data.toList), x.length ≤ 25 := fun x hx => by
    obtain ⟨y, hy, rfl⟩ := List.mem_map.1 hx
    obtain ⟨e, he, rfl⟩ := List.mem_map.1 hy
    obtain ⟨h1, h2⟩ := h e he
    unfold wordE
    have e1 : e.key.data.size = e.key.size := rfl
    have e2 : e.val.data.size = e.val.size := rfl
    split
    · simp; omega
    · simp; omega
  have hl' : ((wordsE es).map (·.data.toList)).length ≤ 4 := by simp [wordsE]; omega
  generalize (wordsE es).map (·.data.toList) = xs at *
  match xs, hl' with
  | [], _ => simp [Lib.join, List.intercalate]
  | [a], _ => have := hw a (by simp); simp [Lib.join, List.intercalate]; omega
  | [a, b], _ => have := hw a (by simp); have := hw b (by simp); simp [Lib.join, List.intercalate]; omega
  | [a, b, c], _ => have := hw a (by simp); have := hw b (by simp); have := hw c (by simp); simp [Lib.join, List.intercalate]; omega
  | [a, b, c, d], _ => have := hw a (by simp); have := hw b (by simp); have := hw c (by simp); have := hw d (by simp); simp [Lib.join, List.intercalate]; omega
set_option maxRecDepth 20000 in
set_option maxHeartbeats 4000000 in
theorem text_any (ao : Option Addr) (cap : Nat) (es : List Ent) (w : World) (hl : es.length ≤ 9223372036854775807) (hes : EntsAt w ao es) (hsm : Small es) :
    Calls Tryz.prog 94 #[.slice ao es.length cap] w (TextEnd w (textT es)) := by
  by_cases hn : es.length = 0 ∨ 4 < es.length
  · have HF : Hid (textT es = (⟨#[]⟩, 2)) := by unfold textT Hid; rw [if_pos hn]
    rw [HF.out]
    clear hes
    rcases hn with h0 | h0
    · have h0' : ((es.length : Int) == 0) = true := by rw [beq_iff_eq]; omega
      go_enter Tryz.func94, Tryz.ntmps94
      go_wp2
      go_ret2
      exact ⟨rfl, Ext.refl _⟩
    · have h0' : ((es.length : Int) == 0) = false := by rw [beq_eq_false_iff_ne]; omega
      have h1' : (4 : Int) < (es.length : Int) := by omega
      go_enter Tryz.func94, Tryz.ntmps94
      go_wp2
      go_ret2
      exact ⟨rfl, Ext.refl _⟩
  · have h0' : ((es.length : Int) == 0) = false := by rw [beq_eq_false_iff_ne]; omega
    have h1' : ¬ (4 : Int) < (es.length : Int) := by omega
    have hll : es.length ≤ 4 := by omega
    have HF : Hid (textT es = if ¬ textS es = 0 then (⟨#[]⟩, textS es) else (joinE es, 0)) := by unfold textT Hid; rw [if_neg hn]
    clear hn
    have hmk := run_make_row' (P := Tryz.prog) 22 9 (.string ⟨#[]⟩) 16 Tryz.underlying22 Tryz.infoStr rfl .i64 .i64 es.length (by omega) (by omega)
    rw [show madeCells #[.string ⟨#[]⟩] es.length = Lib.cellsOf [] es.length from (Lib.cellsOf_nil es.length).symm] at hmk
    go_enter Tryz.func94, Tryz.ntmps94
    go_wp2_with fail
    have hB0 : Blk (w.alloc (.cells (Lib.cellsOf [] es.length) 9)) w.heap.size (Lib.cellsOf [] es.length) 9 := Blk.new _ _ _
    clear hmk
    go_loopw [22] (fun i wr => ∃ k : Nat, k ≤ es.length ∧ i = .int .i64 k ∧ textS es = textS (es.drop k) ∧ (∀ j e, j < k → es[j]? = some e → checkC e.key e.val e.gone = 0) ∧ Blk wr w.heap.size (Lib.cellsOf (wordsE (es.take k)) es.length) 9 ∧ Ext w wr) (fun i _ => es.length - (intOf i).toNat)
    case atStart => exact ⟨0, Nat.zero_le _, rfl, rfl, fun j e h => by omega, hB0, (Ext.refl w).alloc _⟩
    case round =>
      clear hB0
      obtain ⟨k, hk, rfl, hsc, hok, hB, hx⟩ := hrel
      by_cases hlt : k < es.length
      · obtain ⟨b, off, ek, ev, eg, rfl, he, h1, h2, h3⟩ := hes.get hlt
        have hst := textS_step es k ⟨ek, ev, eg⟩ he
        dsimp only at hst
        rw [hst] at hsc
        have g1 := hx.cell h1
        have g2 := hx.cell h2
        have g3 := hx.cell h3
        have hs2 := hsm _ (List.mem_of_getElem? he)
        dsimp only at hs2
        have hbl : b < wr.heap.size := by
          rcases Nat.lt_or_ge b wr.heap.size with h' | h'
          · exact h'
          · simp [World.cell?, Array.getElem?_eq_none h'] at g1
        have HCK := fun W => bcheck_any ek ev eg W hs2.1 hs2.2
        have b6 : Blk (wr.alloc (.cells #[.string ek, .string ev, .bool eg] 56)) wr.heap.size #[.string ek, .string ev, .bool eg] 56 := Blk.new _ _ _
        have bB := hB.alloc (.cells #[.string ek, .string ev, .bool eg] 56)
        by_cases hf : checkC ek ev eg = 0
        · rw [if_neg (by simp [hf])] at hsc
          have HC0 : Hid (∀ W, Calls Tryz.prog 128 #[.agg #[.string ek, .string ev, .bool eg]] W fun e w' => e = .returned .nilIface ∧ Ext W w') := fun W => by
            have := HCK W; rw [hf] at this; exact this
          obtain ⟨hk8, hv16⟩ := checkC_ok hf
          have HW : Hid (∀ W, Calls Tryz.prog 129 #[.agg #[.string ek, .string ev, .bool eg]] W fun e w' => e = .returned (.string (wordE ek ev eg)) ∧ Ext W w') := fun W => word_any ek ev eg W (by omega) (by omega)
          have HSC : Hid (textS es = textS (es.drop (k + 1))) := hsc
          have HOK : Hid (∀ j e, j < k + 1 → es[j]? = some e → checkC e.key e.val e.gone = 0) := fun j e hj hje => by
            rcases Nat.lt_or_eq_of_le (Nat.le_of_lt_succ hj) with h | h
            · exact hok j e h hje
            · subst h; rw [he] at hje; cases hje; exact hf
          have hwl : (wordsE (es.take k)).length = k := by simp [wordsE]; omega
          have HSET : Hid ((Lib.cellsOf (wordsE (es.take k)) es.length).setIfInBounds k (.string (wordE ek ev eg)) = Lib.cellsOf (wordsE (es.take (k + 1))) es.length) := by
            rw [Hid, wordsE_take es k _ he]
            have := Lib.cellsOf_set (done := wordsE (es.take k)) (N := es.length) (by omega) (wordE ek ev eg)
            rw [hwl] at this
            exact this
          have HNX : Hid ((Lib.cellsOf (wordsE (es.take k)) es.length)[k]? = some (.string ByteArray.empty)) := by
            have := Lib.cellsOf_next (done := wordsE (es.take k)) (N := es.length) (by omega)
            rw [hwl] at this
            exact this
          clear hsc hst hf hok HCK he h1 h2 h3 hs2
          generalize wordE ek ev eg = wd at *
          go_wp2_with (first
            | (go_at_call 128; refine (HC0.out _).mono ?_; rintro e w2 ⟨rfl, hx2⟩; have c0 : w2.cell? ⟨wr.heap.size, 0, none⟩ = some (.string ek) := (b6.ext hx2).cell 0; have c1 : w2.cell? ⟨wr.heap.size, 1, none⟩ = some (.string ev) := (b6.ext hx2).cell 1; have c2 : w2.cell? ⟨wr.heap.size, 2, none⟩ = some (.bool eg) := (b6.ext hx2).cell 2)
            | (go_at_call 129; refine (HW.out _).mono ?_; rintro e w3 ⟨rfl, hx3⟩; have s4 : w3.cell? ⟨w.heap.size, k, none⟩ = some (.string ByteArray.empty) := (((bB.ext hx2).ext hx3).cell k).trans HNX.out; have s5 := ((bB.ext hx2).ext hx3).free k))
          go_roundw
          case rel => exact ⟨k + 1, by omega, by go_num, HSC.out, HOK.out, by rw [← HSET.out]; exact ((bB.ext hx2).ext hx3).set k _, (((hx.alloc _).trans hx2).trans hx3).set (p := ⟨w.heap.size, k, none⟩) (Nat.le_refl _) _⟩
          case measure => simp [intOf]; omega
        · have HCF : Hid (∀ W, Calls Tryz.prog 128 #[.agg #[.string ek, .string ev, .bool eg]] W fun e w' => e = .returned (.iface 39 (.int .i64 (checkC ek ev eg))) ∧ Ext W w') := fun W => by
            have := HCK W; unfold errV at this; rw [if_neg hf] at this; exact this
          rw [if_pos hf] at hsc
          have HR : Hid (textT es = (⟨#[]⟩, checkC ek ev eg)) := by rw [Hid, HF.out, hsc, if_pos hf]
          have HV : Hid (errV (checkC ek ev eg) = .iface 39 (.int .i64 (checkC ek ev eg))) := by unfold errV Hid; rw [if_neg hf]
          clear hsc hst hf hok HCK he h1 h2 h3 hs2 hB bB
          generalize checkC ek ev eg = f at *
          go_wp2_with (go_at_call 128; refine (HCF.out _).mono ?_; rintro e w2 ⟨rfl, hx2⟩)
          go_ret2
          exact ⟨by rw [HR.out, HV.out]; rfl, (hx.alloc _).trans hx2⟩
      · have hkl : k = es.length := by omega
        subst hkl
        rw [List.drop_length] at hsc
        have HR : Hid (textT es = (joinE es, 0)) := by rw [Hid, HF.out, if_neg (by rw [hsc]; simp [textS])]
        rw [List.take_length] at hB
        have hwl : (wordsE es).length = es.length := by simp [wordsE]
        have HJ : Hid (Calls Tryz.prog 54 #[.slice (some ⟨w.heap.size, 0, none⟩) es.length es.length, .string ⟨#[32]⟩] wr fun e w' => e = .returned (.string (joinE es)) ∧ Ext wr w') := by
          have := Tryz.strings_Join w.heap.size 0 es.length (wordsE es) ⟨#[32]⟩ wr (fun j x hj => by
            have hjl := (List.getElem?_eq_some_iff.1 hj).1
            rw [Nat.zero_add, hB.cell]
            unfold Lib.cellsOf
            rw [List.getElem?_toArray, List.getElem?_append_left (by simpa using hjl), List.getElem?_map, hj]
            rfl) hB.lt (by omega) (by omega) (join_le es hll (fun e he => by
              obtain ⟨j, hj⟩ := List.getElem?_of_mem he
              exact checkC_ok (hok j e (List.getElem?_eq_some_iff.1 hj).1 hj)))
          rw [hwl] at this
          exact this.mono fun e w' ⟨h1, h2⟩ => ⟨h1, ⟨h2⟩⟩
        clear hsc hok hB hes HF
        rw [HR.out]
        generalize joinE es = jt at *
        go_wp2_with (go_at_call 54; refine HJ.out.mono ?_; rintro e w2 ⟨rfl, hx2⟩)
        go_ret2
        refine ⟨?_, hx.trans hx2⟩
        have HE : errV (0 : Int) = .nilIface := rfl
        first | (rw [HR.out]; show _ = Ending.returned (.tuple #[.string jt, errV 0]); rw [HE]; rfl) | (show _ = Ending.returned (.tuple #[.string jt, errV 0]); rw [HE]; rfl)
end Go.Proofs.YtkibgflbidkalaaGreatDoor

/- Changes as a text: plain words: texts cut at blanks, words cut at the sign. -/
namespace Go.Proofs.YtkibgflbidkalaaGreatDoor
open Go.RowKit Go.WideShapes

theorem idx_none (c : UInt8) : ∀ (s : List UInt8), c ∉ s → Lib.index s [c] = -1
  | [], _ => rfl
  | b :: l, h => by
    simp only [List.mem_cons, not_or] at h
    unfold Lib.index
    rw [idx_none c l h.2, if_neg (by simp [List.isPrefixOf, h.1])]
    rfl
theorem idx_some (c : UInt8) : ∀ (x r : List UInt8), c ∉ x → Lib.index (x ++ c :: r) [c] = x.length
  | [], r, _ => by simp [Lib.index, List.isPrefixOf]
  | b :: l, r, h => by
    simp only [List.mem_cons, not_or] at h
    have ih := idx_some c l r h.2
    rw [List.cons_append]
    unfold Lib.index
    rw [ih, if_neg (by simp [List.isPrefixOf, h.1]), if_neg (by rw [beq_iff_eq]; omega)]
    simp
theorem first_sign (c : UInt8) : ∀ (s : List UInt8), c ∉ s ∨ ∃ x r, s = x ++ c :: r ∧ c ∉ x
  | [] => .inl (by simp)
  | b :: l => by
    by_cases hb : b = c
    · exact .inr ⟨[], l, by simp [hb], by simp⟩
    · rcases first_sign c l with h | ⟨x, r, h1, h2⟩
      · exact .inl (by simp [h, Ne.symm hb])
      · exact .inr ⟨b :: x, r, by simp [h1], by simp [h2, Ne.symm hb]⟩
def splitL : List UInt8 → List (List UInt8)
  | [] => [[]]
  | c :: r => if c = 32 then [] :: splitL r else match splitL r with
    | [] => [[c]]
    | x :: xs => (c :: x) :: xs
theorem splitL_none : ∀ (s : List UInt8), (32 : UInt8) ∉ s → splitL s = [s]
  | [], _ => rfl
  | b :: l, h => by
    simp only [List.mem_cons, not_or] at h
    unfold splitL
    rw [if_neg (Ne.symm h.1), splitL_none l h.2]
theorem splitL_some : ∀ (x r : List UInt8), (32 : UInt8) ∉ x → splitL (x ++ 32 :: r) = x :: splitL r
  | [], r, _ => by simp [splitL]
  | b :: l, r, h => by
    simp only [List.mem_cons, not_or] at h
    rw [List.cons_append]
    conv => lhs; unfold splitL
    rw [if_neg (Ne.symm h.1), splitL_some l r h.2]
theorem splitL_ne (s : List UInt8) : splitL s ≠ [] := by
  rcases first_sign 32 s with h | ⟨x, r, rfl, h⟩
  · rw [splitL_none s h]; simp
  · rw [splitL_some x r h]; simp
theorem splitL_len : ∀ (s : List UInt8), (splitL s).length ≤ s.length + 1
  | [] => by simp [splitL]
  | b :: l => by
    have ih := splitL_len l
    unfold splitL
    split
    · simp; omega
    · split
      · simp
      · rename_i h; rw [h] at ih; simp at ih ⊢; omega
theorem splitK_L : ∀ (k : Nat) (s : List UInt8), (Lib.splitK [32] 0 k s).length = min (k + 1) (splitL s).length ∧ ((splitL s).length ≤ k + 1 → Lib.splitK [32] 0 k s = splitL s)
  | 0, s => by
    have h1 := List.length_pos_iff.2 (splitL_ne s)
    refine ⟨by simp [Lib.splitK]; omega, fun h => ?_⟩
    rcases first_sign 32 s with hh | ⟨x, r, rfl, hh⟩
    · rw [splitL_none s hh]; rfl
    · rw [splitL_some x r hh, List.length_cons] at h
      have := List.length_pos_iff.2 (splitL_ne r)
      omega
  | k + 1, s => by
    rcases first_sign 32 s with hh | ⟨x, r, rfl, hh⟩
    · have e : Lib.splitK [32] 0 (k + 1) s = [s] := by
        unfold Lib.splitK; rw [idx_none 32 s hh, if_pos (by rfl)]
      rw [e, splitL_none s hh]
      exact ⟨by simp, fun _ => rfl⟩
    · have e : Lib.splitK [32] 0 (k + 1) (x ++ 32 :: r) = x :: Lib.splitK [32] 0 k r := by
        rw [Lib.splitK, idx_some 32 x r hh, if_neg (by rw [beq_iff_eq]; omega)]
        have e1 : ((x.length : Int)).toNat = x.length := by omega
        rw [e1]
        have e2 : (x ++ 32 :: r).take (x.length + 0) = x := by simp
        have e3 : (x ++ 32 :: r).drop (x.length + [(32 : UInt8)].length) = r := by
          rw [show x ++ 32 :: r = (x ++ [32]) ++ r by simp, List.drop_append_of_le_length (by simp)]
          simp
        rw [e2, e3]
      obtain ⟨i1, i2⟩ := splitK_L k r
      rw [e, splitL_some x r hh]
      refine ⟨by simp only [List.length_cons, i1]; omega, fun h => ?_⟩
      rw [i2 (by simp at h; omega)]
def wordsL (s : ByteArray) : List ByteArray := (splitL s.data.toList).map fun l => ⟨l.toArray⟩
def chgsE (s : ByteArray) : List Ent := (wordsL s).map changeE
def parseE (s : ByteArray) : Option (List Ent) := if (textT (chgsE s)).2 = 0 then some (chgsE s) else none
theorem ba_eq {a b : ByteArray} (h : a.data.toList = b.data.toList) : a = b := by
  cases a; cases b; simp at h; rw [h]
theorem map_ba_eq {l : List ByteArray} {m : List (List UInt8)} (h : l.map (·.data.toList) = m) : l = m.map fun x => ⟨x.toArray⟩ := by
  subst h
  rw [List.map_map]
  conv => lhs; rw [← List.map_id l]
  exact List.map_congr_left fun a _ => by simp
theorem splitB_words (s : ByteArray) (n : Nat) (hn : n = min 5 (s.size + 1) - 1) : ((Lib.splitB ⟨#[32]⟩ 0 n s).length ≤ 4 → Lib.splitB ⟨#[32]⟩ 0 n s = wordsL s) ∧ (4 < (Lib.splitB ⟨#[32]⟩ 0 n s).length → 4 < (wordsL s).length) := by
  have hd := Lib.splitB_data ⟨#[32]⟩ 0 n s
  have hl : (Lib.splitB ⟨#[32]⟩ 0 n s).length = (Lib.splitK [32] 0 n s.data.toList).length := by
    rw [show ([32] : List UInt8) = (⟨#[32]⟩ : ByteArray).data.toList from rfl, ← hd, List.length_map]
  obtain ⟨k1, k2⟩ := splitK_L n s.data.toList
  have k3 := splitL_len s.data.toList
  have hs : s.data.toList.length = s.size := by rw [Lib.size_eq]
  have hw : (wordsL s).length = (splitL s.data.toList).length := by simp [wordsL]
  rw [hl, hw, k1]
  refine ⟨fun h => ?_, fun h => by omega⟩
  rw [map_ba_eq hd]
  unfold wordsL
  show (Lib.splitK [32] 0 n s.data.toList).map _ = _
  rw [k2 (by omega)]
theorem splitB_size (s : ByteArray) : ∀ (n : Nat) (x : ByteArray), x ∈ Lib.splitB ⟨#[32]⟩ 0 n s → x.size ≤ s.size := by
  intro n
  induction n generalizing s with
  | zero => intro x hx; simp [Lib.splitB] at hx; subst hx; exact Nat.le_refl _
  | succ n ih =>
    intro x hx
    unfold Lib.splitB at hx
    split at hx
    · simp at hx; subst hx; exact Nat.le_refl _
    · rcases List.mem_cons.1 hx with rfl | hx
      · simp; omega
      · have := ih _ x hx
        simp at this; omega
theorem textT_many (es : List Ent) (h : es.length = 0 ∨ 4 < es.length) : (textT es).2 = 2 := by unfold textT; rw [if_pos h]
theorem parse_words (s : ByteArray) (n : Nat) (hn : n = min 5 (s.size + 1) - 1) : ((textT ((Lib.splitB ⟨#[32]⟩ 0 n s).map changeE)).2 = 0 → parseE s = some ((Lib.splitB ⟨#[32]⟩ 0 n s).map changeE)) ∧ (¬ (textT ((Lib.splitB ⟨#[32]⟩ 0 n s).map changeE)).2 = 0 → parseE s = none) := by
  obtain ⟨h1, h2⟩ := splitB_words s n hn
  by_cases hl : (Lib.splitB ⟨#[32]⟩ 0 n s).length ≤ 4
  · have e : (Lib.splitB ⟨#[32]⟩ 0 n s).map changeE = chgsE s := by rw [h1 hl]; rfl
    rw [e]
    unfold parseE
    exact ⟨fun h => by rw [if_pos h], fun h => by rw [if_neg h]⟩
  · have h3 := textT_many ((Lib.splitB ⟨#[32]⟩ 0 n s).map changeE) (.inr (by simp; omega))
    have h4 := textT_many (chgsE s) (.inr (by have := h2 (by omega); simp [chgsE]; omega))
    rw [h3]
    unfold parseE
    rw [h4]
    exact ⟨fun h => absurd h (by decide), fun _ => if_neg (by decide)⟩
end Go.Proofs.YtkibgflbidkalaaGreatDoor

/- Changes as a text: Parse. -/
namespace Go.Proofs.YtkibgflbidkalaaGreatDoor
open Go.RowKit Go.WideShapes

theorem Lst.upon {W0 w w' : World} {v : Value} {es : List Ent} (h : Lst W0 w v es) (hx : Ext w w') : Lst W0 w' v es := by
  refine ⟨⟨h.own.1, ?_⟩, h.ext.trans hx⟩
  rcases h.own.2 with hn | ⟨g, cap, cur, rfl, hb, hgg, rest⟩
  · exact .inl hn
  · exact .inr ⟨g, cap, cur, rfl, hb, by rw [hx.below.block g (lt_of_block hgg)]; exact hgg, rest⟩
structure ParE (w w' : World) (e : Ending) (r : Option (List Ent)) : Prop where
  ex : ∃ v, e = .returned (.tuple #[v, errV (match r with | none => 4 | some _ => 0)]) ∧ Lst w w' v (r.getD [])
theorem changeE_le (s : ByteArray) : (changeE s).key.size ≤ s.size ∧ (changeE s).val.size ≤ s.size := cutE_le s
set_option maxRecDepth 20000 in
set_option maxHeartbeats 4000000 in
theorem bparse_any (s : ByteArray) (w : World) (hs : s.size ≤ 100000) (hg : Tryz.Glob w) :
    Calls Tryz.prog 56 #[.string s] w fun e w' => ParE w w' e (parseE s) := by
  obtain ⟨N, hN⟩ : ∃ N, N = min 5 (s.size + 1) := ⟨_, rfl⟩
  have HSP : Hid (Calls Tryz.prog 92 #[.string s, .string ⟨#[32]⟩, .int .i64 5] w fun e w' => e = .returned (.slice (some ⟨w.heap.size, 0, none⟩) (Lib.splitB ⟨#[32]⟩ 0 (N - 1) s).length N) ∧ w.alloc (.cells (Lib.cellsOf (Lib.splitB ⟨#[32]⟩ 0 (N - 1) s) N) 9) = w') := by
    obtain ⟨m, hm⟩ := hg
    have := Tryz.strings_SplitN s ⟨#[32]⟩ 5 m w (by omega) hm (by decide) (by omega) (by omega)
    rw [← hN] at this
    exact this.mono fun _ _ h => ⟨h.1, h.2.symm⟩
  have HPW := parse_words s (N - 1) (by rw [hN])
  have HSZ : Hid (∀ x ∈ Lib.splitB ⟨#[32]⟩ 0 (N - 1) s, x.size ≤ 100000) := fun x hx => by have := splitB_size s _ x hx; omega
  have HWN : Hid ((Lib.splitB ⟨#[32]⟩ 0 (N - 1) s).length ≤ N) := by have := Lib.splitB_length_le ⟨#[32]⟩ 0 (N - 1) s; rw [Hid]; omega
  generalize Lib.splitB ⟨#[32]⟩ 0 (N - 1) s = ws at *
  have hwl : ws.length ≤ 5 := by have := HWN.out; omega
  generalize parseE s = res at *
  have HP1 : Hid ((textT (ws.map changeE)).2 = 0 → res = some (ws.map changeE)) := HPW.1
  have HP2 : Hid (¬ (textT (ws.map changeE)).2 = 0 → res = none) := HPW.2
  clear HPW
  have HB1 : Blk (w.alloc (.cells (Lib.cellsOf ws N) 9)) w.heap.size (Lib.cellsOf ws N) 9 := Blk.new _ _ _
  have HX1 : Ext w (w.alloc (.cells (Lib.cellsOf ws N) 9)) := (Ext.refl _).alloc _
  have HG1 : Hid (∀ W, Ext (w.alloc (.cells (Lib.cellsOf ws N) 9)) W → Tryz.Glob W) := fun W hx => glob_ext hg (HX1.trans hx)
  generalize hw1 : w.alloc (.cells (Lib.cellsOf ws N) 9) = w1 at *
  clear hw1
  have HCL : Hid (∀ (k : Nat) x W, ws[k]? = some x → Ext w1 W → W.cell? ⟨w.heap.size, k, none⟩ = some (.string x)) := fun k x W hk hx => by
    rw [(HB1.ext hx).cell k]
    unfold Lib.cellsOf
    rw [List.getElem?_toArray, List.getElem?_append_left (by have := (List.getElem?_eq_some_iff.1 hk).1; simpa using this), List.getElem?_map, hk]
    rfl
  clear HB1 hg
  generalize w.heap.size = wb at *
  go_enter Tryz.func56, Tryz.ntmps56
  go_wp2_with (go_at_call 92; refine HSP.out.mono ?_; rintro e w2 ⟨rfl, rfl⟩)
  clear HSP
  go_loopw [4, 12] (fun v i wr => ∃ (k : Nat), k ≤ ws.length ∧ i = .int .i64 k ∧ Lst w1 wr v ((ws.take k).map changeE)) (fun _ i _ => ws.length - (intOf i).toNat)
  case atStart => exact ⟨0, Nat.zero_le _, rfl, Lst.nil (Ext.refl _)⟩
  case round =>
    obtain ⟨k, hk, rfl, hL⟩ := hrel
    by_cases hlt : k < ws.length
    · obtain ⟨x, hx⟩ : ∃ x, ws[k]? = some x := ⟨_, List.getElem?_eq_getElem hlt⟩
      have g1 := HCL.out k x _ hx hL.ext
      have HCH : Hid (Calls Tryz.prog 93 #[.string x] wr fun e w' => e = .returned (entV (changeE x)) ∧ Ext wr w') := change_any x wr (by have := HSZ.out x (List.mem_of_getElem? hx); omega) (HG1.out _ hL.ext)
      have HST : Hid ((ws.take (k + 1)).map changeE = (ws.take k).map changeE ++ [changeE x]) := by
        rw [Hid, List.take_add_one, hx]; simp
      have HLN : Hid (((ws.take k).map changeE).length ≤ 100000) := by rw [Hid]; simp; omega
      have HLX : Hid (∀ W, Ext wr W → Lst w1 W _ ((ws.take k).map changeE)) := fun W hxx => hL.upon hxx
      clear hx hL
      generalize (ws.take k).map changeE = done at *
      generalize changeE x = ce at *
      obtain ⟨ek, ev, eg⟩ := ce
      simp only [entV] at HCH
      go_wp2_with (first
        | (go_at_call 93; refine HCH.out.mono ?_; rintro e w2 ⟨rfl, hx2⟩)
        | (at_builtin; refine wpList_app_ent rfl _ _ rfl w1 _ done rfl ?c1 _ ek ev eg rfl ?c2 ?c3 ?_))
      case c1 => exact (HLX.out _ hx2).alloc _
      case c2 => exact Blk.new' _ _ _ (by first | rfl | simp)
      case c3 => exact HLN.out
      intro v2 w3 hL2
      go_wp2
      go_roundw
      case rel => exact ⟨k + 1, by omega, by go_num, by rw [HST.out]; exact hL2⟩
      case measure => simp [intOf]; omega
    · rw [List.take_of_length_le (by omega)] at hL
      obtain ⟨ao, cap, rfl, hE⟩ := hL.at
      have HTX : Hid (Calls Tryz.prog 94 #[.slice ao (ws.map changeE).length cap] wr (TextEnd wr (textT (ws.map changeE)))) := text_any ao cap (ws.map changeE) wr (by simp; omega) hE (fun e he => by
        obtain ⟨x, hx, rfl⟩ := List.mem_map.1 he
        have h1 := HSZ.out x hx
        have h2 := changeE_le x
        omega)
      have hll : (ws.map changeE).length ≤ 5 := by simp; omega
      have HLX : Hid (∀ W, Ext wr W → Lst w W (.slice ao (ws.map changeE).length cap) (ws.map changeE)) := fun W hxx => (hL.upon hxx).back HX1
      clear hE hL HCL HSZ
      generalize ws.map changeE = done at *
      generalize textT done = tt at *
      obtain ⟨tx, f⟩ := tt
      have HT2 : Hid (Calls Tryz.prog 94 #[.slice ao done.length cap] wr fun e w' => e = .returned (.tuple #[.string tx, errV f]) ∧ Ext wr w') := HTX.out
      clear HTX
      by_cases hf : f = 0
      · subst hf
        have hr := HP1.out rfl
        subst hr
        go_wp2_with (go_at_call 94; refine HT2.out.mono ?_; rintro e w2 ⟨rfl, hx2⟩; have he0 : errV (0 : Int) = .nilIface := rfl)
        go_ret2
        exact ⟨_, rfl, HLX.out _ hx2⟩
      · have hr := HP2.out hf
        subst hr
        have he1 : errV f = .iface 39 (.int .i64 f) := by unfold errV; rw [if_neg hf]
        rw [he1] at HT2
        go_wp2_with (go_at_call 94; refine HT2.out.mono ?_; rintro e w2 ⟨rfl, hx2⟩)
        go_ret2
        exact ⟨_, rfl, Lst.nil (HLX.out _ hx2).ext⟩
end Go.Proofs.YtkibgflbidkalaaGreatDoor

/- Changes as a text: the document's words. -/
namespace Go.Proofs.YtkibgflbidkalaaGreatDoor
open Go.RowKit Go.WideShapes

structure Sls (W0 w : World) (v : Value) (xs : List ByteArray) : Prop where
  own : w.ownsRow W0.heap.size 9 1 v xs.length (xs.map Value.string)
  ext : Ext W0 w
theorem Sls.nil {W0 w : World} (h : Ext W0 w) : Sls W0 w (.slice none 0 0) [] := ⟨World.ownsRow_nil _ _ _ _, h⟩
theorem Sls.alloc {W0 w : World} {v : Value} {xs : List ByteArray} (h : Sls W0 w v xs) (o : Obj) : Sls W0 (w.alloc o) v xs := ⟨h.own.alloc o, h.ext.alloc o⟩
def StrsAt (w : World) (ao : Option Addr) (xs : List ByteArray) : Prop := xs ≠ [] → ∃ b off, ao = some ⟨b, off, none⟩ ∧ ∀ i x, xs[i]? = some x → w.cell? ⟨b, off + i, none⟩ = some (.string x)
theorem StrsAt.ext {w w' : World} {ao : Option Addr} {xs : List ByteArray} (h : StrsAt w ao xs) (hx : Ext w w') : StrsAt w' ao xs := fun hne => by
  obtain ⟨b, off, e, hc⟩ := h hne
  exact ⟨b, off, e, fun i x hi => hx.cell (hc i x hi)⟩
theorem StrsAt.get {w : World} {ao : Option Addr} {xs : List ByteArray} (h : StrsAt w ao xs) {k : Nat} (hk : k < xs.length) : ∃ b off x, ao = some ⟨b, off, none⟩ ∧ xs[k]? = some x ∧ w.cell? ⟨b, off + k, none⟩ = some (.string x) := by
  obtain ⟨b, off, e, hc⟩ := h (fun e => by subst e; cases hk)
  exact ⟨b, off, xs[k], e, List.getElem?_eq_getElem hk, hc k _ (List.getElem?_eq_getElem hk)⟩
theorem Sls.at {W0 w : World} {v : Value} {xs : List ByteArray} (h : Sls W0 w v xs) : ∃ ao cap, v = .slice ao xs.length cap ∧ StrsAt w ao xs := by
  obtain ⟨hlen, hcase⟩ := h.own
  rcases hcase with ⟨rfl, h0⟩ | ⟨g, cap, cur, rfl, _, hh, _, _, _, htake⟩
  · have : xs = [] := List.eq_nil_of_length_eq_zero h0
    subst this
    exact ⟨none, 0, rfl, fun h => absurd rfl h⟩
  · refine ⟨_, cap, rfl, fun _ => ⟨g, 0, rfl, fun i x hi => ?_⟩⟩
    have hj : (xs.map Value.string)[i]? = some (.string x) := by rw [List.getElem?_map, hi]; rfl
    rw [← htake, List.getElem?_take] at hj
    rw [Nat.zero_add]
    split at hj
    · simp only [World.cell?, hh]; simpa using hj
    · simp at hj
theorem wpList_app_str {w : World} {ops : Array Oper} {rest : List Oper} {o : Oper} {a : Act} {Q : Exit → Act → World → Prop} (hgd : o.guard = none) (s x : Operand)
    (ho : o.op = .call { callee := .builtin .append, args := #[s, x], argTypes := #[22, 22] })
    (W0 : World) (v : Value) (xs : List ByteArray) (hs : a.eval s = v) (hl : Sls W0 w v xs) (g : Nat) (t : ByteArray) (hx : a.eval x = .slice (some ⟨g, 0, none⟩) 1 1)
    (hb : Blk w g #[.string t] 9) (hn : xs.length ≤ 100000)
    (h : ∀ v' w', Sls W0 w' v' (xs ++ [t]) → wpList Tryz.prog ops Q rest (a.put o.dst v') w') : wpList Tryz.prog ops Q (o :: rest) a w := by
  obtain ⟨i0, hi, hz0, hz1, hz2⟩ := info_parts Tryz.infoStr
  refine wpList_append_own w hgd s x 22 ho W0.heap.size 9 i0 (.string ⟨#[]⟩) 1 16 Tryz.underlying22 hi hz0 hz1 hz2 rfl (by decide) v xs.length (xs.map Value.string) hs hl.own ⟨g, 0, none⟩ 1 1 [.string t] hx rfl ?_ ?_ ?_ ?_ hl.ext.size ?_
  · intro j u hj
    match j, hj with
    | 0, hj => simp at hj; subst hj; exact hb.cell 0
    | j + 1, hj => simp at hj
  · intro u hu; simp only [List.mem_cons, List.not_mem_nil, or_false] at hu; rcases hu with rfl; rfl
  · unfold maxLen; omega
  · omega
  · intro v' w' p q _
    refine h v' w' ⟨?_, hl.ext.grown q (own_ge hl.own)⟩
    rw [List.map_append, List.length_append]; exact p
theorem toL_take (s : ByteArray) (f k : Nat) : (s.extract f k).data.toList = (s.data.toList.take k).drop f := by
  rw [Lib.extract_data]; simp [List.drop_take]
structure SpG (s : ByteArray) (f k : Nat) (done : List ByteArray) : Prop where
  le : f ≤ k ∧ k ≤ s.size
  no : (32 : UInt8) ∉ (s.data.toList.take k).drop f
  eq : wordsL s = done ++ (splitL (s.data.toList.drop f)).map fun l => ⟨l.toArray⟩
  few : done.length ≤ f
theorem SpG.start (s : ByteArray) : SpG s 0 0 [] := ⟨⟨Nat.le_refl _, Nat.zero_le _⟩, by simp, by simp [wordsL], Nat.zero_le _⟩
theorem SpG.step {s : ByteArray} {f k : Nat} {done : List ByteArray} (h : SpG s f k done) (hk : k < s.size) (hc : ¬ s[k] = 32) : SpG s f (k + 1) done := by
  refine ⟨⟨by have := h.le; omega, hk⟩, ?_, h.eq, h.few⟩
  rw [take_byteP s k hk, List.drop_append_of_le_length (by have := h.le; simp; have e : s.data.size = s.size := rfl; omega)]
  intro hm
  rcases List.mem_append.1 hm with hm | hm
  · exact h.no hm
  · simp at hm; exact hc hm.symm
theorem SpG.cut {s : ByteArray} {f k : Nat} {done : List ByteArray} (h : SpG s f k done) (hk : k < s.size) (hc : s[k] = 32) : SpG s (k + 1) (k + 1) (done ++ [s.extract f k]) := by
  have hl : s.data.toList.length = s.size := by rw [Lib.size_eq]
  have hfk := h.le
  refine ⟨⟨Nat.le_refl _, hk⟩, by simp, ?_, by have := h.few; simp; omega⟩
  have e : s.data.toList.drop f = (s.data.toList.take k).drop f ++ 32 :: s.data.toList.drop (k + 1) := by
    have e1 : s.data.toList = s.data.toList.take k ++ s.data.toList.drop k := (List.take_append_drop k _).symm
    have e2 : s.data.toList.drop k = 32 :: s.data.toList.drop (k + 1) := by
      rw [List.drop_eq_getElem_cons (by omega)]
      congr 1
    conv => lhs; rw [e1, List.drop_append_of_le_length (by simp; omega), e2]
  rw [h.eq, e, splitL_some _ _ h.no]
  simp only [List.map_cons, List.append_assoc, List.singleton_append]
  congr 2
  exact (ba_eq (by rw [toL_take])).symm
theorem SpG.fin {s : ByteArray} {f : Nat} {done : List ByteArray} (h : SpG s f s.size done) : wordsL s = done ++ [s.extract f s.size] := by
  have hl : s.data.toList.length = s.size := by rw [Lib.size_eq]
  have hn := h.no
  rw [List.take_of_length_le (by omega)] at hn
  rw [h.eq, splitL_none _ hn]
  simp only [List.map_cons, List.map_nil]
  congr 2
  exact (ba_eq (by rw [toL_take, List.take_of_length_le (by omega)])).symm
set_option maxRecDepth 20000 in
set_option maxHeartbeats 2000000 in
theorem rsplit_any (s : ByteArray) (w : World) (hs : s.size ≤ 1000) :
    Calls Tryz.prog 14 #[.string s] w fun e w' => ∃ v, e = .returned v ∧ Sls w w' v (wordsL s) := by
  go_enter Tryz.func14, Tryz.ntmps14
  go_wp2
  go_loopw [3, 4, 5] (fun v f i wr => ∃ (fk k : Nat) (done : List ByteArray), i = .int .i64 k ∧ f = .int .i64 fk ∧ SpG s fk k done ∧ Sls w wr v done) (fun _ _ i _ => s.size - (intOf i).toNat)
  case atStart => exact ⟨0, 0, [], rfl, rfl, SpG.start s, Sls.nil (Ext.refl _)⟩
  case round =>
    obtain ⟨fk, k, done, rfl, rfl, hG, hL⟩ := hrel
    have hle := hG.le
    have hfew := hG.few
    have HG : Hid (SpG s fk k done) := hG
    clear hG
    by_cases hlt : k < s.size
    · by_cases hc : s[k] = 32
      · have HC : Hid (SpG s (k + 1) (k + 1) (done ++ [s.extract fk k])) := HG.out.cut hlt hc
        have hc' : ((s[k].toNat : Int) == 32) = true := by rw [hc]; rfl
        clear hc HG
        go_wp2_with (at_builtin; refine wpList_app_str rfl _ _ rfl w _ done rfl ?c1 _ (s.extract fk k) rfl ?c2 ?c3 ?_)
        case c1 => exact hL.alloc _
        case c2 => exact Blk.new' _ _ _ (by simp)
        case c3 => omega
        intro v2 w2 hL2
        clear hL
        go_wp2
        go_roundw
        case rel => exact ⟨k + 1, k + 1, _, by go_num, by go_num, HC.out, hL2⟩
        case measure => simp [intOf]; omega
      · have HC : Hid (SpG s fk (k + 1) done) := HG.out.step hlt hc
        have hc' : ((s[k].toNat : Int) == 32) = false := by
          rw [beq_eq_false_iff_ne]
          intro e
          exact hc (UInt8.toNat_inj.1 (by show s[k].toNat = 32; omega))
        clear hc HG
        go_wp2
        go_roundw
        case rel => exact ⟨fk, k + 1, done, by go_num, rfl, HC.out, hL⟩
        case measure => simp [intOf]; omega
    · have hk : k = s.size := by omega
      subst hk
      have HF : Hid (wordsL s = done ++ [s.extract fk s.size]) := HG.out.fin
      clear HG
      go_wp2_with (at_builtin; refine wpList_app_str rfl _ _ rfl w _ done rfl ?c1 _ (s.extract fk s.size) rfl ?c2 ?c3 ?_)
      case c1 => exact hL.alloc _
      case c2 => exact Blk.new' _ _ _ (by simp)
      case c3 => omega
      intro v2 w2 hL2
      clear hL
      go_wp2
      go_ret
      exact ⟨_, rfl, by rw [HF.out]; exact hL2⟩
set_option maxHeartbeats 2000000 in
theorem rplain_any (s : ByteArray) (w : World) (hs : s.size ≤ 9223372036854775807) :
    Calls Tryz.prog 69 #[.string s] w fun e w' => e = .returned (.bool (plainS s)) ∧ w' = w := by
  go_enter Tryz.func69, Tryz.ntmps69
  go_wp2
  go_loop [3] (fun i => ∃ k : Nat, k ≤ s.size ∧ i = .int .i64 k ∧ (s.data.toList.take k).all plainC = true) (fun i => s.size - (intOf i).toNat)
  case atStart => exact ⟨0, Nat.zero_le _, rfl, rfl⟩
  case round =>
    obtain ⟨k, hk, rfl, hall⟩ := hrel
    by_cases hlt : k < s.size
    · cases hc : plainC s[k] with
      | true =>
        have HS : Hid ((s.data.toList.take (k + 1)).all plainC = true) := by
          rw [Hid, take_byteP s k hlt, List.all_append, hall]; simp [hc]
        clear hall
        have hc' : (97 ≤ (s[k].toNat : Int) ∧ (s[k].toNat : Int) ≤ 122) ∨ (48 ≤ (s[k].toNat : Int) ∧ (s[k].toNat : Int) ≤ 57) := by
          unfold plainC at hc; simp at hc; omega
        clear hc
        rcases hc' with ⟨h1, h2⟩ | ⟨h1, h2⟩
        all_goals
          go_wp2
          go_round
          case rel => exact ⟨k + 1, by omega, by go_num, HS.out⟩
          case measure => simp [intOf]; omega
      | false =>
        have HS : Hid (plainS s = false) := plain_stop hlt hc
        clear hall
        have hc' : (s[k].toNat : Int) < 48 ∨ (57 < (s[k].toNat : Int) ∧ (s[k].toNat : Int) < 97) ∨ 122 < (s[k].toNat : Int) := by
          unfold plainC at hc; simp at hc; omega
        clear hc
        rcases hc' with h1 | ⟨h1, h2⟩ | h1
        all_goals
          go_wp2
          go_ret
          exact ⟨by rw [HS.out]; rfl, rfl⟩
    · have HS : Hid (plainS s = true) := by
        rw [List.take_of_length_le (by simp; omega)] at hall
        exact hall
      clear hall
      go_wp2
      go_ret
      exact ⟨by rw [HS.out]; rfl, rfl⟩
end Go.Proofs.YtkibgflbidkalaaGreatDoor
