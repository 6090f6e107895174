
/- What writing and erasing change: plain words. -/
import Derived.Test.YtpldeejagomfjaaActC
namespace Go.Proofs.Ytpldeejagomfjaa

theorem readR_up {M : CM} (h : M.pend = none) (b p : Nat) (hb : b < 24) (hp : p < 8) : readR M (b : Int) (p : Int) = (match (M.pg b)[p]? with | none => ([], 5) | some (.whole d) => (d, 0) | some .torn => ([], 4)) := by
  unfold readR downB
  rw [h, if_neg (by simp), if_pos ⟨by omega, by omega, by omega, by omega⟩, Int.toNat_natCast, Int.toNat_natCast]
  cases (M.pg b)[p]? with
  | none => rfl
  | some q => cases q <;> rfl
theorem readR_congr {M M' : CM} (h : M.pend = none) (h' : M'.pend = none) (b p : Nat) (hb : b < 24) (hp : p < 8) (he : (M'.pg b)[p]? = (M.pg b)[p]?) : readR M' (b : Int) (p : Int) = readR M (b : Int) (p : Int) := by
  rw [readR_up h b p hb hp, readR_up h' b p hb hp, he]

/-- What Write does to pages. -/
theorem write_pg {M : CM} (hl : M.left = -1) (A : Nat) (s : ByteArray) :
    (writeE M (A : Int) s = 0 ∧ writeM M (A : Int) s = layM M A (.whole (padD s)) ∧ ¬ (M.pg A).length = 8 ∧ s.size ≤ 64 ∧ M.pend = none ∧ A < 24) ∨ (¬ writeE M (A : Int) s = 0 ∧ (writeM M (A : Int) s).pg = M.pg ∧ (writeM M (A : Int) s).wr = M.wr) := by
  unfold writeE writeM
  rw [Int.toNat_natCast]
  by_cases hr : readyE M (A : Int) = 0
  · have hr' : ¬ ¬ readyE M (A : Int) = 0 := by simp [hr]
    obtain ⟨hp, h0, h1⟩ := ready_zero hr
    rw [if_neg hr', if_neg hr']
    by_cases h64 : 64 < s.size
    · rw [if_pos h64, if_pos h64]; exact .inr ⟨by decide, rfl, rfl⟩
    · rw [if_neg h64, if_neg h64]
      by_cases h8 : (M.pg A).length = 8
      · rw [if_pos h8, if_pos h8]; exact .inr ⟨by decide, rfl, rfl⟩
      · rw [if_neg h8, if_neg h8]
        cases hw : M.wk A with
        | true => exact .inr ⟨by simp, rfl, rfl⟩
        | false =>
          have h0' : ¬ M.left = 0 := by omega
          simp only [Bool.false_eq_true, if_false]
          rw [if_neg h0', if_neg h0', tick_neg hl]
          exact .inl ⟨rfl, rfl, h8, by omega, hp, by omega⟩
  · rw [if_pos hr, if_pos hr]; exact .inr ⟨hr, rfl, rfl⟩
theorem erase_pg {M : CM} (hl : M.left = -1) (A : Nat) :
    (eraseE M (A : Int) = 0 ∧ eraseM M (A : Int) = wipeM M A []) ∨ (¬ eraseE M (A : Int) = 0 ∧ (eraseM M (A : Int)).pg = M.pg ∧ (eraseM M (A : Int)).wr = M.wr) := by
  unfold eraseE eraseM
  rw [Int.toNat_natCast]
  by_cases hr : readyE M (A : Int) = 0
  · have hr' : ¬ ¬ readyE M (A : Int) = 0 := by simp [hr]
    rw [if_neg hr', if_neg hr']
    cases hw : M.wk A with
    | true => exact .inr ⟨by simp, rfl, rfl⟩
    | false =>
      have h0' : ¬ M.left = 0 := by omega
      simp only [Bool.false_eq_true, if_false]
      rw [if_neg h0', if_neg h0', tick_neg hl]
      exact .inl ⟨rfl, rfl⟩
  · rw [if_pos hr, if_pos hr]; exact .inr ⟨hr, rfl, rfl⟩

/-- What is done in TopOnce. -/
def onceM (M : CM) (A : Nat) (s : ByteArray) (er : Bool) : CM := if er then eraseM (writeM M (A : Int) s) (A : Int) else writeM M (A : Int) s
def onceE (M : CM) (A : Nat) (s : ByteArray) (er : Bool) : Int := if er then eraseE (writeM M (A : Int) s) (A : Int) else writeE M (A : Int) s
theorem once_bnd {M : CM} {k : Nat} (h : Bnd M k) (A : Nat) (s : ByteArray) (er : Bool) : Bnd (onceM M A s er) (k + 1) := by
  unfold onceM
  cases er with
  | true => exact (h.write A s).erase A
  | false => exact (h.write A s).mono (Nat.le_succ k)
/-- Pages that stay. -/
theorem once_stays {M : CM} {k : Nat} (h : Bnd M k) (A : Nat) (s : ByteArray) (er : Bool) (b p : Nat) (hb : b < 24) (hp : p < 8) (hn : ¬ (b = A ∧ (er = true ∨ p = (M.pg A).length))) :
    readR (onceM M A s er) (b : Int) (p : Int) = readR M (b : Int) (p : Int) := by
  refine readR_congr h.pend (once_bnd h A s er).pend b p hb hp ?_
  have h1 : (((writeM M (A : Int) s).pg b)[p]? = (M.pg b)[p]?) ∨ (b = A ∧ p = (M.pg A).length) := by
    rcases write_pg h.left A s with ⟨_, e, _⟩ | ⟨_, e, _⟩
    · rw [e]
      simp only [layM, upd]
      split
      · rename_i hbA; subst hbA
        by_cases hpn : p = (M.pg b).length
        · exact .inr ⟨rfl, hpn⟩
        · left
          by_cases hlt : p < (M.pg b).length
          · rw [List.getElem?_append_left hlt]
          · rw [List.getElem?_eq_none (by simp; omega), List.getElem?_eq_none (by omega)]
      · exact .inl rfl
    · rw [e]; exact .inl rfl
  unfold onceM
  cases er with
  | false =>
    rcases h1 with h1 | h1
    · exact h1
    · exact absurd ⟨h1.1, .inr h1.2⟩ hn
  | true =>
    have hbA : ¬ b = A := fun e => hn ⟨e, .inl rfl⟩
    have h1' : ((writeM M (A : Int) s).pg b)[p]? = (M.pg b)[p]? := by
      rcases h1 with h1 | h1
      · exact h1
      · exact absurd h1.1 hbA
    rcases erase_pg (h.write A s).left A with ⟨_, e⟩ | ⟨_, e, _⟩
    · show (((eraseM (writeM M (A : Int) s) (A : Int)).pg b)[p]?) = _
      rw [e]; simp only [wipeM, upd_other _ _ _ hbA]; exact h1'
    · show (((eraseM (writeM M (A : Int) s) (A : Int)).pg b)[p]?) = _
      rw [e]; exact h1'
/-- Where nothing went wrong. -/
theorem once_done {M : CM} {k : Nat} (h : Bnd M k) (A : Nat) (s : ByteArray) (hA : A < 24) (hl8 : (M.pg A).length ≤ 8) :
    (onceE M A s true = 0 → ((onceM M A s true).pg A).length = 0 ∧ (onceM M A s true).wr A = M.wr A + 1) ∧
    (onceE M A s false = 0 → ((onceM M A s false).pg A).length = (M.pg A).length + 1 ∧ (onceM M A s false).wr A = M.wr A ∧ (M.pg A).length < 8 ∧ (readR (onceM M A s false) (A : Int) ((M.pg A).length : Int)).2 = 0) := by
  have hw : (writeM M (A : Int) s).wr = M.wr := by
    rcases write_pg h.left A s with ⟨_, e, _⟩ | ⟨_, _, e⟩
    · rw [e]; rfl
    · exact e
  constructor
  · intro he
    unfold onceE at he
    simp only [if_true] at he
    rcases erase_pg (h.write A s).left A with ⟨_, e⟩ | ⟨e0, _⟩
    · unfold onceM
      simp only [if_true]
      rw [e]
      simp only [wipeM, upd_same, List.length_nil, true_and]
      rw [hw]
    · exact absurd he e0
  · intro he
    have hb := once_bnd h A s false
    unfold onceE at he
    simp only [Bool.false_eq_true, if_false] at he
    rcases write_pg h.left A s with ⟨_, e, h8, _⟩ | ⟨e0, _⟩
    · have hlt : (M.pg A).length < 8 := by omega
      have e2 : onceM M A s false = layM M A (.whole (padD s)) := by unfold onceM; simp only [Bool.false_eq_true, if_false]; exact e
      rw [e2]
      refine ⟨by simp [layM, upd_same], rfl, hlt, ?_⟩
      rw [readR_up (by rw [← e2]; exact hb.pend) A _ hA hlt]
      simp [layM, upd_same]
    · exact absurd he e0

end Go.Proofs.Ytpldeejagomfjaa
