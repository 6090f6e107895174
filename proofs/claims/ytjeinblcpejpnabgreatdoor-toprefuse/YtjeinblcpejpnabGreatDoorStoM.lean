/- ManM StoM. -/
import Derived.Test.YtjeinblcpejpnabGreatDoorManL
import Derived.Test.YtjeinblcpejpnabGreatDoorManD

/- Manifests on a chip, in plain words: one is noted behind the newest one. -/
namespace Go.Proofs.YtjeinblcpejpnabGreatDoor
open Go.RowKit Go.WideShapes

theorem nst_lay {M M' : CM} {b : Nat} {m : Man} (hb : b ≤ 1) (hf : manFault m = 0) (low : ∀ c q m', c < 2 → pageM M c q = some m' → m'.ep < m.ep) (snd : ∀ c, c < 2 → M.wk c = false ∧ M.bd c = false) (len : ∀ c, c < 2 → (M.pg c).length ≤ 8)
    (hl : (M.pg b).length < 8) (hp : M'.pend = none) (h1 : M'.pg = upd M.pg b (M.pg b ++ [.whole (padD (manTxt m))])) (h2 : M'.wk = M.wk) (h3 : M'.bd = M.bd) : Nst M' b (some m) := by
  refine ⟨hb, hp, by rw [h2, h3]; exact snd, fun c hc => ?_, (M.pg b).length, ?_, fun c q m' hc hn hq => ?_⟩
  · rw [h1]
    by_cases hcb : c = b
    · subst hcb; rw [upd_same]; simp; omega
    · rw [upd_other _ _ _ hcb]; exact len c hc
  · rw [pageM_pg, h1, upd_same, pgM_end]; exact parse_padD hf
  · show m'.ep < m.ep
    rw [pageM_pg, h1] at hq
    by_cases hcb : c = b
    · subst hcb
      rw [upd_same] at hq
      exact low c q m' hc (pgM_snoc _ _ _ _ hq (fun k => hn ⟨rfl, k.1⟩))
    · rw [upd_other _ _ _ hcb] at hq; exact low c q m' hc hq
theorem nst_torn {M M' : CM} {a b : Nat} {o : Option Man} (h : Nst M a o) (hl : (M.pg b).length < 8) (hp : M'.pend = none) (h1 : M'.pg = upd M.pg b (M.pg b ++ [.torn])) (h2 : M'.wk = M.wk) (h3 : M'.bd = M.bd) : Nst M' a o := by
  obtain ⟨p, hpo, hlow⟩ := h.new
  have key : ∀ c q m', pageM M' c q = some m' → pageM M c q = some m' := fun c q m' hq => by
    rw [pageM_pg, h1] at hq
    by_cases hcb : c = b
    · subst hcb; rw [upd_same] at hq; exact pgM_snoc _ _ _ _ hq (fun k => by obtain ⟨_, d, hd⟩ := k; cases hd)
    · rw [upd_other _ _ _ hcb] at hq; exact hq
  refine ⟨h.le, hp, by rw [h2, h3]; exact h.sound, fun c hc => ?_, p, ?_, fun c q m' hc hn hq => hlow c q m' hc hn (key c q m' hq)⟩
  · rw [h1]
    by_cases hcb : c = b
    · subst hcb; rw [upd_same]; simp; omega
    · rw [upd_other _ _ _ hcb]; exact h.len c hc
  · cases ho : o with
    | none =>
      cases hq : pageM M' a p with
      | none => rfl
      | some m' => have := key a p m' hq; rw [hpo, ho] at this; cases this
    | some m =>
      rw [ho] at hpo
      have hlt := pgM_lt hpo
      rw [pageM_pg, h1]
      by_cases hcb : a = b
      · subst hcb; rw [upd_same, pgM_app hlt]; exact hpo
      · rw [upd_other _ _ _ hcb]; exact hpo
theorem nst_wipe {M M' : CM} {a b : Nat} {o : Option Man} {l : List Pg} (h : Nst M a o) (hne : ¬ a = b) (hl : l.length ≤ 8) (hl0 : ∀ q, pgM l q = none) (hp : M'.pend = none) (h1 : M'.pg = upd M.pg b l) (h2 : M'.wk = M.wk) (h3 : M'.bd = M.bd) : Nst M' a o := by
  obtain ⟨p, hpo, hlow⟩ := h.new
  refine ⟨h.le, hp, by rw [h2, h3]; exact h.sound, fun c hc => ?_, p, ?_, fun c q m' hc hn hq => ?_⟩
  · rw [h1]
    by_cases hcb : c = b
    · subst hcb; rw [upd_same]; exact hl
    · rw [upd_other _ _ _ hcb]; exact h.len c hc
  · rw [pageM_pg, h1, upd_other _ _ _ hne]; exact hpo
  · rw [pageM_pg, h1] at hq
    by_cases hcb : c = b
    · subst hcb; rw [upd_same, hl0] at hq; cases hq
    · rw [upd_other _ _ _ hcb] at hq; exact hlow c q m' hc hn hq

theorem ready_nst {M : CM} {b : Nat} (hp : M.pend = none) (hb : b < 24) (hbd : M.bd b = false) : readyE M (b : Int) = 0 := by
  unfold readyE downB; rw [hp]; simp [hbd]; omega
theorem write_nst {M : CM} {b : Nat} {s : ByteArray} (hp : M.pend = none) (hb : b < 24) (hbd : M.bd b = false) (hwk : M.wk b = false) (hs : s.size ≤ 64) (hl : (M.pg b).length < 8) :
    writeE M (b : Int) s = (if M.left = 0 then 9 else 0) ∧ writeM M (b : Int) s = (if M.left = 0 then { M with pend := some (.write b (padD s)) } else layM (tickM M) b (.whole (padD s))) := by
  have hr := ready_nst hp hb hbd
  unfold writeE writeM
  have hr' : ¬ ¬ readyE M (b : Int) = 0 := by simp [hr]
  have hwk' : ¬ M.wk b = true := by simp [hwk]
  rw [Int.toNat_natCast]
  constructor
  · rw [if_neg hr', if_neg (by omega), if_neg (by omega), if_neg hwk']
  · rw [if_neg hr', if_neg (by omega), if_neg (by omega), if_neg hwk']
theorem erase_nst {M : CM} {b : Nat} (hp : M.pend = none) (hb : b < 24) (hbd : M.bd b = false) (hwk : M.wk b = false) :
    eraseE M (b : Int) = (if M.left = 0 then 9 else 0) ∧ eraseM M (b : Int) = (if M.left = 0 then { M with pend := some (.erase b) } else wipeM (tickM M) b []) := by
  have hr := ready_nst hp hb hbd
  unfold eraseE eraseM
  have hr' : ¬ ¬ readyE M (b : Int) = 0 := by simp [hr]
  have hwk' : ¬ M.wk b = true := by simp [hwk]
  rw [Int.toNat_natCast]
  constructor
  · rw [if_neg hr', if_neg hwk']
  · rw [if_neg hr', if_neg hwk']
theorem tick_wk (M : CM) : (tickM M).wk = M.wk := by unfold tickM; split <;> rfl
theorem tick_bd (M : CM) : (tickM M).bd = M.bd := by unfold tickM; split <;> rfl
theorem tick_neg {M : CM} (h : M.left < 0) : tickM M = M := by unfold tickM; rw [if_neg (by omega)]
theorem restart_up {M : CM} (how : Int) (h : M.pend = none) : restartM M how = { M with left := -1, pend := none } := by unfold restartM; rw [h]
theorem restart_some {M : CM} (how : Int) {p : Pend} (h : M.pend = some p) : restartM M how = { stepped M p how with left := -1, pend := none } := by unfold restartM; rw [h]

/-- A manifest is noted: it is the newest one; or the machine falls, and behind that it or the one ahead of it is. -/
structure NoteOk (M : CM) (a : Nat) (o : Option Man) (m : Man) : Prop where
  end_ : (noteE M a (manTxt m) = 0 ∧ Nst (noteM M a (manTxt m)) (noteAt M a) (some m) ∧ (M.left < 0 → (noteM M a (manTxt m)).left = M.left)) ∨
    (noteE M a (manTxt m) = 9 ∧ ¬ M.left < 0 ∧ ∀ how, ∃ a', Nst (restartM (noteM M a (manTxt m)) how) a' o ∨ Nst (restartM (noteM M a (manTxt m)) how) a' (some m))
  wr : ∀ b, (noteM M a (manTxt m)).wr b ≤ M.wr b + 1
  left : ∀ n, M.left ≤ n → 0 ≤ n → (noteM M a (manTxt m)).left ≤ n
theorem upd_wr (f : Nat → Nat) (b c : Nat) : upd f b (f b + 1) c ≤ f c + 1 := by
  by_cases h : c = b
  · subst h; rw [upd_same]; exact Nat.le_refl _
  · rw [upd_other _ _ _ h]; omega
theorem note_nst {M : CM} {a : Nat} {o : Option Man} {m : Man} (h : Nst M a o) (hf : manFault m = 0) (hgt : ∀ m0, o = some m0 → m0.ep < m.ep) : NoteOk M a o m := by
  have hle := h.le
  have hT := (manTxt_le hf).1
  have hep := (manFault_ep hf).1
  have hlow := h.low hep hgt
  have hs := h.sound
  by_cases hfull : (M.pg a).length = 8
  · -- the other block is erased
    have h1 : noteAt M a = 1 - a := by unfold noteAt; rw [if_pos hfull]
    obtain ⟨e1, e2⟩ := erase_nst (b := 1 - a) h.up (by omega) (hs _ (by omega)).2 (hs _ (by omega)).1
    have hE0 : noteE0 M a = if M.left = 0 then 9 else 0 := by unfold noteE0; rw [if_pos hfull, e1]
    have hM0 : noteM0 M a = if M.left = 0 then { M with pend := some (.erase (1 - a)) } else wipeM (tickM M) (1 - a) [] := by unfold noteM0; rw [if_pos hfull, e2]
    by_cases hl0 : M.left = 0
    · have hE : noteE M a (manTxt m) = 9 := by unfold noteE; rw [hE0, if_pos hl0]; rfl
      have hM : noteM M a (manTxt m) = { M with pend := some (.erase (1 - a)) } := by unfold noteM; rw [hE0, hM0, if_pos hl0, if_pos hl0]; rfl
      refine ⟨.inr ⟨hE, by omega, fun how => ⟨a, .inl ?_⟩⟩, fun b => by rw [hM]; show M.wr b ≤ M.wr b + 1; omega, fun n hn _ => by rw [hM]; exact hn⟩
      rw [hM, restart_some how rfl]
      unfold stepped
      split
      · exact nst_wipe h (b := 1 - a) (l := []) (by omega) (by simp) pgM_nil rfl rfl rfl rfl
      · split
        · exact nst_wipe h (b := 1 - a) (l := List.replicate 8 .torn) (by omega) (by simp) pgM_torn8 rfl rfl rfl rfl
        · exact h.keep rfl rfl rfl rfl
    · obtain ⟨M1, hM1⟩ : ∃ M1, M1 = wipeM (tickM M) (1 - a) [] := ⟨_, rfl⟩
      have hpg1 : M1.pg = upd M.pg (1 - a) [] := by rw [hM1]; simp [wipeM, tick_pg]
      have hwk1 : M1.wk = M.wk := by rw [hM1]; simp [wipeM, tick_wk]
      have hbd1 : M1.bd = M.bd := by rw [hM1]; simp [wipeM, tick_bd]
      have hpn1 : M1.pend = none := by rw [hM1]; simp [wipeM, tick_pend, h.up]
      have hwr1 : ∀ b, M1.wr b ≤ M.wr b + 1 := fun b => by rw [hM1]; simp only [wipeM, tick_wr]; exact upd_wr M.wr (1 - a) b
      have hlf1 : ∀ n, M.left ≤ n → 0 ≤ n → M1.left ≤ n := fun n h0 h1 => by rw [hM1]; have := tick_left M; show (tickM M).left ≤ n; omega
      have hN1 : Nst M1 a o := nst_wipe h (b := 1 - a) (l := []) (by omega) (by simp) pgM_nil hpn1 hpg1 hwk1 hbd1
      have hlen1 : (M1.pg (1 - a)).length < 8 := by rw [hpg1, upd_same]; simp
      have hs1 := hN1.sound
      obtain ⟨w1, w2⟩ := write_nst (M := M1) (b := 1 - a) (s := manTxt m) hpn1 (by omega) (hs1 _ (by omega)).2 (hs1 _ (by omega)).1 (by omega) hlen1
      have hE : noteE M a (manTxt m) = if M1.left = 0 then 9 else 0 := by unfold noteE; rw [hE0, hM0, if_neg hl0, if_neg hl0, if_neg (by simp), h1, ← hM1, w1]
      have hM : noteM M a (manTxt m) = if M1.left = 0 then { M1 with pend := some (.write (1 - a) (padD (manTxt m))) } else layM (tickM M1) (1 - a) (.whole (padD (manTxt m))) := by
        unfold noteM; rw [hE0, hM0, if_neg hl0, if_neg hl0, if_neg (by simp), h1, ← hM1, w2]
      have hlow1 := hN1.low hep hgt
      by_cases hl1 : M1.left = 0
      · rw [if_pos hl1] at hE hM
        refine ⟨.inr ⟨hE, fun hneg => ?_, fun how => ?_⟩, fun b => by rw [hM]; exact hwr1 b, fun n h0 h1 => by rw [hM]; exact hlf1 n h0 h1⟩
        · rw [hM1] at hl1; have := tick_neg hneg; simp only [wipeM, this] at hl1; omega
        rw [hM, restart_some how rfl]
        unfold stepped
        split
        · exact ⟨1 - a, .inr (nst_lay (M := M1) (by omega) hf hlow1 hs1 hN1.len hlen1 rfl rfl rfl rfl)⟩
        · split
          · exact ⟨a, .inl (nst_torn hN1 hlen1 rfl rfl rfl rfl)⟩
          · exact ⟨a, .inl (hN1.keep rfl rfl rfl rfl)⟩
      · rw [if_neg hl1] at hE hM
        refine ⟨.inl ⟨hE, ?_, fun hneg => ?_⟩, fun b => by rw [hM]; simp only [layM, tick_wr]; exact hwr1 b, fun n h0 h1 => by rw [hM]; have := tick_left M1; have := hlf1 n h0 h1; show (tickM M1).left ≤ n; omega⟩
        · rw [h1, hM]
          exact nst_lay (M := M1) (by omega) hf hlow1 hs1 hN1.len hlen1 (by simp [layM, tick_pend, hpn1]) (by simp [layM, tick_pg]) (by simp [layM, tick_wk]) (by simp [layM, tick_bd])
        · have hm1 : M1.left = M.left := by rw [hM1, tick_neg hneg]; rfl
          rw [hM]; show (tickM M1).left = M.left
          rw [tick_neg (by omega), hm1]
  · have hlen : (M.pg a).length < 8 := by have := h.len a (by omega); omega
    have h1 : noteAt M a = a := by unfold noteAt; rw [if_neg hfull]
    have hE0 : noteE0 M a = 0 := by unfold noteE0; rw [if_neg hfull]
    have hM0 : noteM0 M a = M := by unfold noteM0; rw [if_neg hfull]
    obtain ⟨w1, w2⟩ := write_nst (M := M) (b := a) (s := manTxt m) h.up (by omega) (hs _ (by omega)).2 (hs _ (by omega)).1 (by omega) hlen
    have hE : noteE M a (manTxt m) = if M.left = 0 then 9 else 0 := by unfold noteE; rw [hE0, hM0, if_neg (by simp), h1, w1]
    have hM : noteM M a (manTxt m) = if M.left = 0 then { M with pend := some (.write a (padD (manTxt m))) } else layM (tickM M) a (.whole (padD (manTxt m))) := by
      unfold noteM; rw [hE0, hM0, if_neg (by simp), h1, w2]
    by_cases hl0 : M.left = 0
    · rw [if_pos hl0] at hE hM
      refine ⟨.inr ⟨hE, by omega, fun how => ?_⟩, fun b => by rw [hM]; show M.wr b ≤ M.wr b + 1; omega, fun n hn _ => by rw [hM]; exact hn⟩
      rw [hM, restart_some how rfl]
      unfold stepped
      split
      · exact ⟨a, .inr (nst_lay (M := M) hle hf hlow hs h.len hlen rfl rfl rfl rfl)⟩
      · split
        · exact ⟨a, .inl (nst_torn h hlen rfl rfl rfl rfl)⟩
        · exact ⟨a, .inl (h.keep rfl rfl rfl rfl)⟩
    · rw [if_neg hl0] at hE hM
      refine ⟨.inl ⟨hE, ?_, fun hneg => by rw [hM]; show (tickM M).left = M.left; rw [tick_neg hneg]⟩, fun b => by rw [hM]; simp only [layM, tick_wr]; omega, fun n h0 h1 => by rw [hM]; have := tick_left M; show (tickM M).left ≤ n; omega⟩
      rw [h1, hM]
      exact nst_lay (M := M) hle hf hlow hs h.len hlen (by simp [layM, tick_pend, h.up]) (by simp [layM, tick_pg]) (by simp [layM, tick_wk]) (by simp [layM, tick_bd])
theorem restart_wr (M : CM) (how : Int) (b : Nat) : (restartM M how).wr b ≤ M.wr b + 1 := by
  unfold restartM
  cases M.pend with
  | none => show M.wr b ≤ _; omega
  | some p =>
    show (stepped M p how).wr b ≤ _
    unfold stepped
    cases p with
    | write c d => split <;> (try split) <;> (show M.wr b ≤ _; omega)
    | erase c =>
      split
      · exact upd_wr M.wr c b
      · split
        · exact upd_wr M.wr c b
        · omega
theorem restart_left (M : CM) (how : Int) : (restartM M how).left = -1 := by
  unfold restartM; split <;> rfl
theorem new_nst : Nst newM 0 none := ⟨by omega, rfl, fun _ _ => ⟨rfl, rfl⟩, fun _ _ => by simp [newM], 0, rfl, fun b q m' _ _ h => by cases h⟩
end Go.Proofs.YtjeinblcpejpnabGreatDoor

/- A store in plain words: which blocks are free, how one is claimed, how tables are laid. -/
namespace Go.Proofs.YtjeinblcpejpnabGreatDoor
open Go.RowKit

def freeStep (M : CM) (L : List Int) (o : Option Nat) (b : Nat) : Option Nat :=
  if (b : Int) ∈ L ∨ M.bd b = true then o else match o with
    | none => some b
    | some l => if M.wr b < M.wr l then some b else some l
/-- Of k blocks, from 2 on, the free one of least wear. -/
def freeTo (M : CM) (L : List Int) : Nat → Option Nat
  | 0 => none
  | k + 1 => freeStep M L (freeTo M L k) (k + 2)
def freeS (M : CM) (L : List Int) : Option Nat := freeTo M L 22
structure FreeOk (M : CM) (L : List Int) (k b : Nat) : Prop where
  ge : 2 ≤ b
  lt : b < k + 2
  un : (b : Int) ∉ L
  bd : M.bd b = false
  least : ∀ c : Nat, 2 ≤ c → c < k + 2 → (c : Int) ∉ L → M.bd c = false → M.wr b ≤ M.wr c
theorem freeTo_is (M : CM) (L : List Int) : ∀ k, (∀ b, freeTo M L k = some b → FreeOk M L k b) ∧ (freeTo M L k = none → ∀ c : Nat, 2 ≤ c → c < k + 2 → (c : Int) ∈ L ∨ M.bd c = true)
  | 0 => ⟨fun b h => (by cases h), fun _ c h1 h2 => (by omega)⟩
  | k + 1 => by
    obtain ⟨ih1, ih2⟩ := freeTo_is M L k
    have hstep : freeTo M L (k + 1) = freeStep M L (freeTo M L k) (k + 2) := rfl
    by_cases hu : ((k + 2 : Nat) : Int) ∈ L ∨ M.bd (k + 2) = true
    · have e : freeTo M L (k + 1) = freeTo M L k := by rw [hstep]; unfold freeStep; rw [if_pos hu]
      rw [e]
      have away : ∀ c : Nat, c < k + 1 + 2 → (c : Int) ∉ L → M.bd c = false → c < k + 2 := fun c h1 h2 h3 => by
        rcases Nat.lt_or_ge c (k + 2) with h | h
        · exact h
        · obtain rfl : c = k + 2 := by omega
          rcases hu with hu | hu
          · exact absurd hu h2
          · rw [h3] at hu; cases hu
      refine ⟨fun b hb => ?_, fun hn c h1 h2 => ?_⟩
      · have := ih1 b hb
        exact ⟨this.ge, by have := this.lt; omega, this.un, this.bd, fun c h1 h2 h3 h4 => this.least c h1 (away c h2 h3 h4) h3 h4⟩
      · rcases Nat.lt_or_ge c (k + 2) with h | h
        · exact ih2 hn c h1 h
        · obtain rfl : c = k + 2 := by omega
          exact hu
    · have hu1 : ((k + 2 : Nat) : Int) ∉ L := fun h => hu (.inl h)
      have hu2 : M.bd (k + 2) = false := by
        cases h : M.bd (k + 2) with
        | true => exact absurd (.inr h) hu
        | false => rfl
      cases ho : freeTo M L k with
      | none =>
        have e : freeTo M L (k + 1) = some (k + 2) := by rw [hstep, ho]; unfold freeStep; rw [if_neg hu]
        rw [e]
        refine ⟨fun b hb => ?_, fun hn => by cases hn⟩
        simp only [Option.some.injEq] at hb
        subst hb
        refine ⟨by omega, by omega, hu1, hu2, fun c h1 h2 h3 h4 => ?_⟩
        rcases Nat.lt_or_ge c (k + 2) with h | h
        · rcases ih2 ho c h1 h with h | h
          · exact absurd h h3
          · rw [h4] at h; cases h
        · obtain rfl : c = k + 2 := by omega
          exact Nat.le_refl _
      | some l =>
        have hl := ih1 l ho
        by_cases hw : M.wr (k + 2) < M.wr l
        · have e : freeTo M L (k + 1) = some (k + 2) := by
            rw [hstep, ho]; unfold freeStep; rw [if_neg hu]; simp only; rw [if_pos hw]
          rw [e]
          refine ⟨fun b hb => ?_, fun hn => by cases hn⟩
          simp only [Option.some.injEq] at hb
          subst hb
          refine ⟨by omega, by omega, hu1, hu2, fun c h1 h2 h3 h4 => ?_⟩
          rcases Nat.lt_or_ge c (k + 2) with h | h
          · have := hl.least c h1 h h3 h4; omega
          · obtain rfl : c = k + 2 := by omega
            exact Nat.le_refl _
        · have e : freeTo M L (k + 1) = some l := by
            rw [hstep, ho]; unfold freeStep; rw [if_neg hu]; simp only; rw [if_neg hw]
          rw [e]
          refine ⟨fun b hb => ?_, fun hn => by cases hn⟩
          simp only [Option.some.injEq] at hb
          subst hb
          refine ⟨hl.ge, by have := hl.lt; omega, hl.un, hl.bd, fun c h1 h2 h3 h4 => ?_⟩
          rcases Nat.lt_or_ge c (k + 2) with h | h
          · exact hl.least c h1 h h3 h4
          · obtain rfl : c = k + 2 := by omega
            omega
theorem freeS_some {M : CM} {L : List Int} {b : Nat} (h : freeS M L = some b) : FreeOk M L 22 b := (freeTo_is M L 22).1 b h
theorem freeS_none {M : CM} {L : List Int} (h : freeS M L = none) : ∀ c : Nat, 2 ≤ c → c < 24 → (c : Int) ∈ L ∨ M.bd c = true := (freeTo_is M L 22).2 h

def pendB : Pend → Nat
  | .write b _ => b
  | .erase b => b
/-- Something is done in block b alone. -/
structure Stp (b : Nat) (M M' : CM) : Prop where
  pg : ∀ c, ¬ c = b → M'.pg c = M.pg c
  wk : M'.wk = M.wk
  bd : M'.bd = M.bd
  wr : ∀ c, M'.wr c ≤ M.wr c + (if c = b then 1 else 0)
  left : M.left < 0 → M'.left = M.left
  leq : ∀ n, M.left ≤ n → 0 ≤ n → M'.left ≤ n
/-- What makes a block ready: a weak one goes bad; else it is done, or the machine falls. -/
structure RdOk (rd : CM → Nat → CM × Int) (Post : CM → Nat → Prop) : Prop where
  post : ∀ M M' b, M'.pg b = M.pg b → Post M b → Post M' b
  weak : ∀ M b, M.pend = none → b < 24 → M.bd b = false → M.wk b = true → rd M b = ({ M with bd := upd M.bd b true }, 7)
  sound : ∀ M b, M.pend = none → b < 24 → M.bd b = false → M.wk b = false → Stp b M (rd M b).1 ∧
    (((rd M b).2 = 0 ∧ (rd M b).1.pend = none ∧ Post (rd M b).1 b) ∨ ((rd M b).2 = 9 ∧ ¬ M.left < 0 ∧ ∃ p, (rd M b).1.pend = some p ∧ pendB p = b))
/-- A block is claimed; which one, or what is wrong. -/
inductive Claimed (rd : CM → Nat → CM × Int) : CM → List Int → CM → List Int → Nat → Int → Prop
  | full {M : CM} {L : List Int} (h : freeS M L = none) : Claimed rd M L M L 0 8
  | got {M : CM} {L : List Int} {b : Nat} (h : freeS M L = some b) (h0 : (rd M b).2 = 0) : Claimed rd M L (rd M b).1 (L ++ [(b : Int)]) b 0
  | err {M : CM} {L : List Int} {b : Nat} (h : freeS M L = some b) (h0 : ¬ (rd M b).2 = 0) (h7 : ¬ (rd M b).2 = 7) : Claimed rd M L (rd M b).1 (L ++ [(b : Int)]) 0 (rd M b).2
  | next {M M' : CM} {L L' : List Int} {b c : Nat} {e : Int} (h : freeS M L = some b) (h7 : (rd M b).2 = 7) (hr : Claimed rd (rd M b).1 (L ++ [(b : Int)]) M' L' c e) : Claimed rd M L M' L' c e
/-- What is in use stays as it is. -/
structure Adv (L : List Int) (M : CM) (L' : List Int) (M' : CM) : Prop where
  mono : ∀ x ∈ L, x ∈ L'
  pg : ∀ b : Nat, (b : Int) ∈ L → M'.pg b = M.pg b
  low : ∀ b : Nat, b < 2 → M'.pg b = M.pg b
  wr : ∀ b : Nat, M'.wr b ≤ M.wr b + 1 ∧ ((b : Int) ∈ L ∨ (b : Int) ∉ L' → M'.wr b ≤ M.wr b)
  wk : M'.wk = M.wk
  bd : ∀ b, M.bd b = true → M'.bd b = true
  bw : ∀ b, M'.bd b = true → M.bd b = true ∨ M.wk b = true
  left : M.left < 0 → M'.left = M.left
  leq : ∀ n, M.left ≤ n → 0 ≤ n → M'.left ≤ n
theorem Adv.refl (L : List Int) (M : CM) : Adv L M L M := ⟨fun _ h => h, fun _ _ => rfl, fun _ _ => rfl, fun _ => ⟨by omega, fun _ => Nat.le_refl _⟩, rfl, fun _ h => h, fun _ h => .inl h, fun _ => rfl, fun _ h _ => h⟩
theorem Adv.trans {L L' L'' : List Int} {M M' M'' : CM} (h : Adv L M L' M') (k : Adv L' M' L'' M'') : Adv L M L'' M'' := by
  refine ⟨fun x hx => k.mono x (h.mono x hx), fun b hb => (k.pg b (h.mono _ hb)).trans (h.pg b hb), fun b hb => (k.low b hb).trans (h.low b hb), fun b => ⟨?_, fun hb => ?_⟩, k.wk.trans h.wk, fun b hb => k.bd b (h.bd b hb), fun b hb => ?_, fun hl => ?_, fun n h1 h2 => k.leq n (h.leq n h1 h2) h2⟩
  · by_cases hb : (b : Int) ∈ L'
    · have h1 := (k.wr b).2 (.inl hb); have h2 := (h.wr b).1; omega
    · have h1 := (k.wr b).1; have h2 := (h.wr b).2 (.inr hb); omega
  · rcases hb with hb | hb
    · exact Nat.le_trans ((k.wr b).2 (.inl (h.mono _ hb))) ((h.wr b).2 (.inl hb))
    · exact Nat.le_trans ((k.wr b).2 (.inr hb)) ((h.wr b).2 (.inr fun hh => hb (k.mono _ hh)))
  · rcases k.bw b hb with h' | h'
    · exact h.bw b h'
    · rw [h.wk] at h'; exact .inr h'
  · rw [k.left (by rw [h.left hl]; exact hl), h.left hl]
/-- A block that is not in use is made ready. -/
theorem Adv.step {L : List Int} {M M' : CM} {b : Nat} (h : Stp b M M') (h2 : 2 ≤ b) (hu : (b : Int) ∉ L) : Adv L M (L ++ [(b : Int)]) M' := by
  have hne : ∀ c : Nat, (c : Int) ∈ L → ¬ c = b := fun c hc e => hu (e ▸ hc)
  refine ⟨fun x hx => List.mem_append_left _ hx, fun c hc => h.pg c (hne c hc), fun c hc => h.pg c (by omega), fun c => ⟨?_, fun hc => ?_⟩, h.wk, fun c hc => by rw [h.bd]; exact hc, fun c hc => .inl (by rw [h.bd] at hc; exact hc), h.left, h.leq⟩
  · have := h.wr c; split at this <;> omega
  · have hcb : ¬ c = b := by
      rcases hc with hc | hc
      · exact hne c hc
      · intro e; subst e; exact hc (by simp)
    have := h.wr c; rw [if_neg hcb] at this; exact this
theorem Adv.weak {L : List Int} {M : CM} {b : Nat} (hw : M.wk b = true) : Adv L M (L ++ [(b : Int)]) { M with bd := upd M.bd b true } := by
  refine ⟨fun x hx => List.mem_append_left _ hx, fun _ _ => rfl, fun _ _ => rfl, fun c => ⟨Nat.le_succ _, fun _ => Nat.le_refl _⟩, rfl, fun c hc => ?_, fun c hc => ?_, fun _ => rfl, fun _ h _ => h⟩
  · show upd M.bd b true c = true
    unfold upd; split
    · rfl
    · exact hc
  · by_cases e : c = b
    · subst e; exact .inr hw
    · have : upd M.bd b true c = true := hc
      rw [upd_other _ _ _ e] at this; exact .inl this
/-- How many blocks are neither in use nor weak. -/
def goodN (wk : Nat → Bool) (L : List Int) : Nat := (List.range' 2 22).countP (fun b : Nat => !wk b && !decide ((b : Int) ∈ L))
def wkN (wk : Nat → Bool) : Nat := (List.range' 2 22).countP wk
theorem range_nodup : (List.range' 2 22).Nodup := by decide
theorem count_in (X : List Nat) (hX : X.Nodup) : ∀ L : List Int, X.countP (fun b : Nat => decide ((b : Int) ∈ L)) ≤ L.length
  | [] => by simp
  | x :: L => by
    have ih := count_in X hX L
    have h1 : X.countP (fun b : Nat => decide ((b : Int) = x)) ≤ 1 := by
      clear ih
      induction X with
      | nil => simp
      | cons y Y ihY =>
        obtain ⟨hy, hY⟩ := List.nodup_cons.1 hX
        rw [List.countP_cons]
        by_cases e : (y : Int) = x
        · have : Y.countP (fun b : Nat => decide ((b : Int) = x)) = 0 := by
            rw [List.countP_eq_zero]
            intro z hz hzx
            simp at hzx
            have : z = y := by omega
            subst this; exact hy hz
          rw [this, if_pos (by simpa using e)]; omega
        · rw [if_neg (by simpa using e)]
          exact ihY hY
    have h2 : ∀ Y : List Nat, Y.countP (fun b : Nat => decide ((b : Int) ∈ x :: L)) ≤ Y.countP (fun b : Nat => decide ((b : Int) = x)) + Y.countP (fun b : Nat => decide ((b : Int) ∈ L)) := by
      intro Y
      induction Y with
      | nil => simp
      | cons y Y ihY =>
        simp only [List.countP_cons]
        by_cases e1 : (y : Int) = x <;> by_cases e2 : (y : Int) ∈ L <;> simp [e1, e2] at ihY ⊢ <;> omega
    have := h2 X
    simp only [List.length_cons]
    omega
theorem good_ge (wk : Nat → Bool) (L : List Int) : 22 ≤ goodN wk L + L.length + wkN wk := by
  have h1 := count_in (List.range' 2 22) range_nodup L
  have h2 : ∀ X : List Nat, X.length ≤ X.countP (fun b : Nat => !wk b && !decide ((b : Int) ∈ L)) + X.countP (fun b : Nat => decide ((b : Int) ∈ L)) + X.countP wk := by
    intro X
    induction X with
    | nil => simp
    | cons y Y ih =>
      simp only [List.countP_cons, List.length_cons]
      by_cases e2 : (y : Int) ∈ L <;> cases e1 : wk y <;> simp [e2] at ih ⊢ <;> omega
  have := h2 (List.range' 2 22)
  simp only [List.length_range'] at this
  unfold goodN wkN
  omega
theorem good_snoc (wk : Nat → Bool) (L : List Int) (b : Nat) : goodN wk L ≤ goodN wk (L ++ [(b : Int)]) + 1 := by
  have key : ∀ X : List Nat, X.Nodup → X.countP (fun c : Nat => !wk c && !decide ((c : Int) ∈ L)) ≤ X.countP (fun c : Nat => !wk c && !decide ((c : Int) ∈ L ++ [(b : Int)])) + X.countP (fun c : Nat => decide ((c : Int) ∈ [(b : Int)])) := by
    intro X hX
    induction X with
    | nil => simp
    | cons y Y ih =>
      have := ih (List.nodup_cons.1 hX).2
      simp only [List.countP_cons]
      by_cases e1 : wk y = true <;> by_cases e2 : (y : Int) ∈ L <;> by_cases e3 : (y : Int) = (b : Int) <;> simp [e1, e2, e3] at this ⊢ <;> (try split) <;> omega
  have h1 := key _ range_nodup
  have h2 := count_in (List.range' 2 22) range_nodup [(b : Int)]
  unfold goodN
  simp only [List.length_singleton] at h2
  omega
theorem good_weak {wk : Nat → Bool} (L : List Int) {b : Nat} (h : wk b = true) : goodN wk (L ++ [(b : Int)]) = goodN wk L := by
  unfold goodN
  apply List.countP_congr
  intro c _
  by_cases e : c = b
  · subst e; simp [h]
  · have : ¬ (c : Int) = (b : Int) := by omega
    simp [this]
theorem good_none {M : CM} {L : List Int} (hbw : ∀ b, M.bd b = true → M.wk b = true) (h : freeS M L = none) : goodN M.wk L = 0 := by
  unfold goodN
  rw [List.countP_eq_zero]
  intro c hc
  rw [List.mem_range'_1] at hc
  rcases freeS_none h c hc.1 (by omega) with h' | h'
  · simp [h']
  · simp [hbw c h']
/-- A claim has its end. -/
structure ClaimOk (Post : CM → Nat → Prop) (M : CM) (L : List Int) (M' : CM) (L' : List Int) (b : Nat) (e : Int) : Prop where
  adv : Adv L M L' M'
  end_ : (e = 0 ∧ 2 ≤ b ∧ b < 24 ∧ (b : Int) ∉ L ∧ (b : Int) ∈ L' ∧ M'.pend = none ∧ Post M' b ∧ M'.wk b = false ∧ M'.bd b = false ∧ goodN M.wk L ≤ goodN M.wk L' + 1) ∨
    (e = 8 ∧ goodN M.wk L = 0 ∧ M'.pend = none) ∨
    (e = 9 ∧ ¬ M.left < 0 ∧ ∃ p, M'.pend = some p ∧ 2 ≤ pendB p ∧ pendB p < 24 ∧ ((pendB p : Nat) : Int) ∉ L)
theorem Claimed.ok {rd : CM → Nat → CM × Int} {Post : CM → Nat → Prop} (hrd : RdOk rd Post) {M M' : CM} {L L' : List Int} {b : Nat} {e : Int} (h : Claimed rd M L M' L' b e) :
    M.pend = none → (∀ b, M.bd b = true → M.wk b = true) → ClaimOk Post M L M' L' b e := by
  induction h with
  | full h => intro hp hb; exact ⟨Adv.refl _ _, .inr (.inl ⟨rfl, good_none hb h, hp⟩)⟩
  | @got M L b h h0 =>
    intro hp hb
    have hf := freeS_some h
    cases hw : M.wk b with
    | true => rw [hrd.weak M b hp hf.lt hf.bd hw] at h0; cases h0
    | false =>
      obtain ⟨hs, hh⟩ := hrd.sound M b hp hf.lt hf.bd hw
      rcases hh with ⟨_, h1, h2⟩ | ⟨h9, _⟩
      · exact ⟨Adv.step hs hf.ge hf.un, .inl ⟨rfl, hf.ge, hf.lt, hf.un, by simp, h1, h2, by rw [hs.wk]; exact hw, by rw [hs.bd]; exact hf.bd, good_snoc _ _ _⟩⟩
      · rw [h9] at h0; cases h0
  | @err M L b h h0 h7 =>
    intro hp hb
    have hf := freeS_some h
    cases hw : M.wk b with
    | true => rw [hrd.weak M b hp hf.lt hf.bd hw] at h7; exact absurd rfl h7
    | false =>
      obtain ⟨hs, hh⟩ := hrd.sound M b hp hf.lt hf.bd hw
      rcases hh with ⟨h1, _⟩ | ⟨h9, hl, p, h1, h2⟩
      · exact absurd h1 h0
      · exact ⟨Adv.step hs hf.ge hf.un, .inr (.inr ⟨h9, hl, p, h1, by rw [h2]; exact hf.ge, by rw [h2]; exact hf.lt, by rw [h2]; exact hf.un⟩)⟩
  | @next M M' L L' b c e h h7 hr ih =>
    intro hp hb
    have hf := freeS_some h
    cases hw : M.wk b with
    | false =>
      obtain ⟨hs, hh⟩ := hrd.sound M b hp hf.lt hf.bd hw
      rcases hh with ⟨h1, _⟩ | ⟨h9, _⟩
      · rw [h1] at h7; cases h7
      · rw [h9] at h7; cases h7
    | true =>
      rw [hrd.weak M b hp hf.lt hf.bd hw] at ih
      have ha : Adv L M (L ++ [(b : Int)]) { M with bd := upd M.bd b true } := Adv.weak hw
      have hg : goodN M.wk (L ++ [(b : Int)]) = goodN M.wk L := good_weak L hw
      have := ih hp (fun c hc => by
        rcases ha.bw c hc with h | h
        · exact hb c h
        · exact h)
      refine ⟨ha.trans this.adv, ?_⟩
      rcases this.end_ with ⟨h0, h1, h2, h3, h4, h5, h6, h7, h8, h9⟩ | ⟨h0, h1, h2⟩ | ⟨h0, h1, p, h2, h3, h4, h5⟩
      · refine .inl ⟨h0, h1, h2, fun hh => h3 (List.mem_append_left _ hh), h4, h5, h6, h7, h8, ?_⟩
        rw [← hg]; exact h9
      · exact .inr (.inl ⟨h0, by rw [← hg]; exact h1, h2⟩)
      · exact .inr (.inr ⟨h0, h1, p, h2, h3, h4, fun hh => h5 (List.mem_append_left _ hh)⟩)
end Go.Proofs.YtjeinblcpejpnabGreatDoor
