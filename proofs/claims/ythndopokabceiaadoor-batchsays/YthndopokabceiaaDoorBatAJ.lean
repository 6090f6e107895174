/- BatA. -/
import Derived.Test.YthndopokabceiaaDoorShelfJ
import Derived.Test.YthndopokabceiaaDoorEntKJ
import Derived.Test.YthndopokabceiaaDoorEntLJ

/- Changes as a text: plain, check, word, change. -/
namespace Go.Proofs.YthndopokabceiaaDoor
open Go.RowKit Go.WideShapes

def plainC (c : UInt8) : Bool := (decide (97 ≤ c.toNat) && decide (c.toNat ≤ 122)) || (decide (48 ≤ c.toNat) && decide (c.toNat ≤ 57))
def plainS (s : ByteArray) : Bool := s.data.toList.all plainC
theorem take_byteP (s : ByteArray) (k : Nat) (h : k < s.size) : s.data.toList.take (k + 1) = s.data.toList.take k ++ [s[k]] := by
  rw [List.take_succ_eq_append_getElem (by simpa using h)]; rfl
theorem plain_stop {s : ByteArray} {k : Nat} (h : k < s.size) (hc : plainC s[k] = false) : plainS s = false := by
  unfold plainS
  rw [List.all_eq_false]
  refine ⟨s[k], ?_, by simp [hc]⟩
  have : s.data.toList[k]'(by simpa using h) = s[k] := rfl
  rw [← this]
  exact List.getElem_mem _
set_option maxHeartbeats 1000000 in
theorem plain_any (s : ByteArray) (w : World) (hs : s.size ≤ 9223372036854775807) :
    Calls Tryd.prog 94 #[.string s] w fun e w' => e = .returned (.bool (plainS s)) ∧ w' = w := by
  go_enter Tryd.func94, Tryd.ntmps94
  go_wp2
  go_loop [7] (fun i => ∃ k : Nat, k ≤ s.size ∧ i = .int .i64 k ∧ (s.data.toList.take k).all plainC = true) (fun i => s.size - (intOf i).toNat)
  case atStart => exact ⟨0, Nat.zero_le _, rfl, rfl⟩
  case round =>
    obtain ⟨k, hk, rfl, hall⟩ := hrel
    by_cases hlt : k < s.size
    · cases hc : plainC s[k] with
      | true =>
        have HS : Hid ((s.data.toList.take (k + 1)).all plainC = true) := by
          rw [Hid, take_byteP s k hlt, List.all_append, hall]; simp [hc]
        clear hall
        have hc' : (97 ≤ (s[k].toNat : Int) ∧ (s[k].toNat : Int) ≤ 122) ∨ (48 ≤ (s[k].toNat : Int) ∧ (s[k].toNat : Int) ≤ 57) := by
          unfold plainC at hc; simp at hc; omega
        clear hc
        rcases hc' with ⟨h1, h2⟩ | ⟨h1, h2⟩
        all_goals
          go_wp2
          go_round
          case rel => exact ⟨k + 1, by omega, by go_num, HS.out⟩
          case measure => simp [intOf]; omega
      | false =>
        have HS : Hid (plainS s = false) := plain_stop hlt hc
        clear hall
        have hc' : (s[k].toNat : Int) < 48 ∨ (57 < (s[k].toNat : Int) ∧ (s[k].toNat : Int) < 97) ∨ 122 < (s[k].toNat : Int) := by
          unfold plainC at hc; simp at hc; omega
        clear hc
        rcases hc' with h1 | ⟨h1, h2⟩ | h1
        all_goals
          go_wp2
          go_ret
          exact ⟨by rw [HS.out]; rfl, rfl⟩
    · have HS : Hid (plainS s = true) := by
        rw [List.take_of_length_le (by simp; omega)] at hall
        exact hall
      clear hall
      go_wp2
      go_ret
      exact ⟨by rw [HS.out]; rfl, rfl⟩
/-- What check answers. -/
def checkC (k v : ByteArray) (g : Bool) : Int := if ¬ faultB k v g = 0 then faultB k v g else if plainS k && plainS v then 0 else 3
set_option maxHeartbeats 1000000 in
theorem bcheck_any (k v : ByteArray) (g : Bool) (w : World) (hk : k.size ≤ 9223372036854775807) (hv : v.size ≤ 9223372036854775807) :
    Calls Tryd.prog 54 #[.agg #[.string k, .string v, .bool g]] w fun e w' => e = .returned (errV (checkC k v g)) ∧ Ext w w' := by
  have HC : Hid (∀ W, Calls Tryd.prog 76 #[.agg #[.string k, .string v, .bool g]] W fun e w' => e = .returned (errV (faultB k v g)) ∧ Ext W w') := fun W => by
    refine (check_any k v g W).mono ?_
    rintro e w' ⟨rfl, c, rfl⟩
    exact ⟨rfl, (Ext.refl W).alloc _⟩
  by_cases hf : faultB k v g = 0
  · have HC0 : Hid (∀ W, Calls Tryd.prog 76 #[.agg #[.string k, .string v, .bool g]] W fun e w' => e = .returned .nilIface ∧ Ext W w') := fun W => by
      have := HC.out W; rw [hf] at this; exact this
    have hx0 : Ext w (w.alloc (.cells #[.string k, .string v, .bool g] 34)) := (Ext.refl w).alloc _
    have b1 : Blk (w.alloc (.cells #[.string k, .string v, .bool g] 34)) w.heap.size #[.string k, .string v, .bool g] 34 := Blk.new w _ _
    have HP : Hid (∀ (s : ByteArray) W, s.size ≤ 9223372036854775807 → Calls Tryd.prog 94 #[.string s] W fun e w' => e = .returned (.bool (plainS s)) ∧ w' = W) := fun s W h => plain_any s W h
    cases hp : plainS k with
    | true =>
      have HPK : Hid (∀ W, Calls Tryd.prog 94 #[.string k] W fun e w' => e = .returned (.bool true) ∧ w' = W) := fun W => by have := HP.out k W hk; rw [hp] at this; exact this
      cases hq : plainS v with
      | true =>
        have HPV : Hid (∀ W, Calls Tryd.prog 94 #[.string v] W fun e w' => e = .returned (.bool true) ∧ w' = W) := fun W => by have := HP.out v W hv; rw [hq] at this; exact this
        have HR : Hid (checkC k v g = 0) := by unfold checkC Hid; rw [if_neg (by simp [hf]), if_pos (by simp [hp, hq])]
        clear hf hp hq HC HP
        have t1 : True := trivial
        go_enter Tryd.func54, Tryd.ntmps54
        go_wp2_with (first
          | (go_at_call 76; refine (HC0.out _).mono ?_; rintro e w1 ⟨rfl, hx1⟩; have c0 : w1.cell? ⟨w.heap.size, 0, none⟩ = some (.string k) := (b1.ext hx1).cell 0; have c1 : w1.cell? ⟨w.heap.size, 1, none⟩ = some (.string v) := (b1.ext hx1).cell 1)
          | (go_at_call 94; have _t := t1; refine (HPK.out _).mono ?_; rintro e w2 ⟨rfl, rfl⟩; clear t1)
          | (go_at_call 94; refine (HPV.out _).mono ?_; rintro e w3 ⟨rfl, rfl⟩))
        go_ret
        exact ⟨by rw [HR.out]; rfl, hx0.trans hx1⟩
      | false =>
        have HPV : Hid (∀ W, Calls Tryd.prog 94 #[.string v] W fun e w' => e = .returned (.bool false) ∧ w' = W) := fun W => by have := HP.out v W hv; rw [hq] at this; exact this
        have HR : Hid (checkC k v g = 3) := by unfold checkC Hid; rw [if_neg (by simp [hf]), if_neg (by simp [hp, hq])]
        clear hf hp hq HC HP
        have t1 : True := trivial
        go_enter Tryd.func54, Tryd.ntmps54
        go_wp2_with (first
          | (go_at_call 76; refine (HC0.out _).mono ?_; rintro e w1 ⟨rfl, hx1⟩; have c0 : w1.cell? ⟨w.heap.size, 0, none⟩ = some (.string k) := (b1.ext hx1).cell 0; have c1 : w1.cell? ⟨w.heap.size, 1, none⟩ = some (.string v) := (b1.ext hx1).cell 1)
          | (go_at_call 94; have _t := t1; refine (HPK.out _).mono ?_; rintro e w2 ⟨rfl, rfl⟩; clear t1)
          | (go_at_call 94; refine (HPV.out _).mono ?_; rintro e w3 ⟨rfl, rfl⟩))
        go_ret
        exact ⟨by rw [HR.out]; rfl, hx0.trans hx1⟩
    | false =>
      have HPK : Hid (∀ W, Calls Tryd.prog 94 #[.string k] W fun e w' => e = .returned (.bool false) ∧ w' = W) := fun W => by have := HP.out k W hk; rw [hp] at this; exact this
      have HR : Hid (checkC k v g = 3) := by unfold checkC Hid; rw [if_neg (by simp [hf]), if_neg (by simp [hp])]
      clear hf hp HC HP
      go_enter Tryd.func54, Tryd.ntmps54
      go_wp2_with (first
        | (go_at_call 76; refine (HC0.out _).mono ?_; rintro e w1 ⟨rfl, hx1⟩; have c0 : w1.cell? ⟨w.heap.size, 0, none⟩ = some (.string k) := (b1.ext hx1).cell 0)
        | (go_at_call 94; refine (HPK.out _).mono ?_; rintro e w2 ⟨rfl, rfl⟩))
      go_ret
      exact ⟨by rw [HR.out]; rfl, hx0.trans hx1⟩
  · have HCF : Hid (∀ W, Calls Tryd.prog 76 #[.agg #[.string k, .string v, .bool g]] W fun e w' => e = .returned (.iface 82 (.int .i64 (faultB k v g))) ∧ Ext W w') := fun W => by
      have := HC.out W; unfold errV at this; rw [if_neg hf] at this; exact this
    have HR : Hid (errV (checkC k v g) = .iface 82 (.int .i64 (faultB k v g))) := by unfold checkC errV Hid; rw [if_pos hf, if_neg hf]
    clear hf HC
    rw [HR.out]
    generalize faultB k v g = f at *
    go_enter Tryd.func54, Tryd.ntmps54
    go_wp2_with (go_at_call 76; refine (HCF.out _).mono ?_; rintro e w1 ⟨rfl, hx1⟩)
    go_ret
    exact ⟨rfl, ((Ext.refl w).alloc _).trans hx1⟩
/-- The word of a change. -/
def wordE (k v : ByteArray) (g : Bool) : ByteArray := if g then k else k ++ ⟨#[61]⟩ ++ v
set_option maxHeartbeats 1000000 in
theorem word_any (k v : ByteArray) (g : Bool) (w : World) (hk : k.size ≤ 1000) (hv : v.size ≤ 1000) :
    Calls Tryd.prog 55 #[.agg #[.string k, .string v, .bool g]] w fun e w' => e = .returned (.string (wordE k v g)) ∧ Ext w w' := by
  cases g with
  | true =>
    go_enter Tryd.func55, Tryd.ntmps55
    go_wp2
    go_ret
    exact ⟨rfl, (Ext.refl w).alloc _⟩
  | false =>
    go_enter Tryd.func55, Tryd.ntmps55
    go_wp2
    go_ret
    exact ⟨rfl, (Ext.refl w).alloc _⟩
end Go.Proofs.YthndopokabceiaaDoor
