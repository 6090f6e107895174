
/- Manifests on a chip, in plain words: one is noted behind the newest one. -/
import Derived.Test.YtpldeejagomfjaaManL
namespace Go.Proofs.Ytpldeejagomfjaa
open Go.RowKit Go.WideShapes

theorem nst_lay {M M' : CM} {b : Nat} {m : Man} (hb : b ≤ 1) (hf : manFault m = 0) (low : ∀ c q m', c < 2 → pageM M c q = some m' → m'.ep < m.ep) (snd : ∀ c, c < 2 → M.wk c = false ∧ M.bd c = false) (len : ∀ c, c < 2 → (M.pg c).length ≤ 8)
    (hl : (M.pg b).length < 8) (hp : M'.pend = none) (h1 : M'.pg = upd M.pg b (M.pg b ++ [.whole (padD (manTxt m))])) (h2 : M'.wk = M.wk) (h3 : M'.bd = M.bd) : Nst M' b (some m) := by
  refine ⟨hb, hp, by rw [h2, h3]; exact snd, fun c hc => ?_, (M.pg b).length, ?_, fun c q m' hc hn hq => ?_⟩
  · rw [h1]
    by_cases hcb : c = b
    · subst hcb; rw [upd_same]; simp; omega
    · rw [upd_other _ _ _ hcb]; exact len c hc
  · rw [pageM_pg, h1, upd_same, pgM_end]; exact parse_padD hf
  · show m'.ep < m.ep
    rw [pageM_pg, h1] at hq
    by_cases hcb : c = b
    · subst hcb
      rw [upd_same] at hq
      exact low c q m' hc (pgM_snoc _ _ _ _ hq (fun k => hn ⟨rfl, k.1⟩))
    · rw [upd_other _ _ _ hcb] at hq; exact low c q m' hc hq
theorem nst_torn {M M' : CM} {a b : Nat} {o : Option Man} (h : Nst M a o) (hl : (M.pg b).length < 8) (hp : M'.pend = none) (h1 : M'.pg = upd M.pg b (M.pg b ++ [.torn])) (h2 : M'.wk = M.wk) (h3 : M'.bd = M.bd) : Nst M' a o := by
  obtain ⟨p, hpo, hlow⟩ := h.new
  have key : ∀ c q m', pageM M' c q = some m' → pageM M c q = some m' := fun c q m' hq => by
    rw [pageM_pg, h1] at hq
    by_cases hcb : c = b
    · subst hcb; rw [upd_same] at hq; exact pgM_snoc _ _ _ _ hq (fun k => by obtain ⟨_, d, hd⟩ := k; cases hd)
    · rw [upd_other _ _ _ hcb] at hq; exact hq
  refine ⟨h.le, hp, by rw [h2, h3]; exact h.sound, fun c hc => ?_, p, ?_, fun c q m' hc hn hq => hlow c q m' hc hn (key c q m' hq)⟩
  · rw [h1]
    by_cases hcb : c = b
    · subst hcb; rw [upd_same]; simp; omega
    · rw [upd_other _ _ _ hcb]; exact h.len c hc
  · cases ho : o with
    | none =>
      cases hq : pageM M' a p with
      | none => rfl
      | some m' => have := key a p m' hq; rw [hpo, ho] at this; cases this
    | some m =>
      rw [ho] at hpo
      have hlt := pgM_lt hpo
      rw [pageM_pg, h1]
      by_cases hcb : a = b
      · subst hcb; rw [upd_same, pgM_app hlt]; exact hpo
      · rw [upd_other _ _ _ hcb]; exact hpo
theorem nst_wipe {M M' : CM} {a b : Nat} {o : Option Man} {l : List Pg} (h : Nst M a o) (hne : ¬ a = b) (hl : l.length ≤ 8) (hl0 : ∀ q, pgM l q = none) (hp : M'.pend = none) (h1 : M'.pg = upd M.pg b l) (h2 : M'.wk = M.wk) (h3 : M'.bd = M.bd) : Nst M' a o := by
  obtain ⟨p, hpo, hlow⟩ := h.new
  refine ⟨h.le, hp, by rw [h2, h3]; exact h.sound, fun c hc => ?_, p, ?_, fun c q m' hc hn hq => ?_⟩
  · rw [h1]
    by_cases hcb : c = b
    · subst hcb; rw [upd_same]; exact hl
    · rw [upd_other _ _ _ hcb]; exact h.len c hc
  · rw [pageM_pg, h1, upd_other _ _ _ hne]; exact hpo
  · rw [pageM_pg, h1] at hq
    by_cases hcb : c = b
    · subst hcb; rw [upd_same, hl0] at hq; cases hq
    · rw [upd_other _ _ _ hcb] at hq; exact hlow c q m' hc hn hq

theorem ready_nst {M : CM} {b : Nat} (hp : M.pend = none) (hb : b < 24) (hbd : M.bd b = false) : readyE M (b : Int) = 0 := by
  unfold readyE downB; rw [hp]; simp [hbd]; omega
theorem write_nst {M : CM} {b : Nat} {s : ByteArray} (hp : M.pend = none) (hb : b < 24) (hbd : M.bd b = false) (hwk : M.wk b = false) (hs : s.size ≤ 64) (hl : (M.pg b).length < 8) :
    writeE M (b : Int) s = (if M.left = 0 then 9 else 0) ∧ writeM M (b : Int) s = (if M.left = 0 then { M with pend := some (.write b (padD s)) } else layM (tickM M) b (.whole (padD s))) := by
  have hr := ready_nst hp hb hbd
  unfold writeE writeM
  have hr' : ¬ ¬ readyE M (b : Int) = 0 := by simp [hr]
  have hwk' : ¬ M.wk b = true := by simp [hwk]
  rw [Int.toNat_natCast]
  constructor
  · rw [if_neg hr', if_neg (by omega), if_neg (by omega), if_neg hwk']
  · rw [if_neg hr', if_neg (by omega), if_neg (by omega), if_neg hwk']
theorem erase_nst {M : CM} {b : Nat} (hp : M.pend = none) (hb : b < 24) (hbd : M.bd b = false) (hwk : M.wk b = false) :
    eraseE M (b : Int) = (if M.left = 0 then 9 else 0) ∧ eraseM M (b : Int) = (if M.left = 0 then { M with pend := some (.erase b) } else wipeM (tickM M) b []) := by
  have hr := ready_nst hp hb hbd
  unfold eraseE eraseM
  have hr' : ¬ ¬ readyE M (b : Int) = 0 := by simp [hr]
  have hwk' : ¬ M.wk b = true := by simp [hwk]
  rw [Int.toNat_natCast]
  constructor
  · rw [if_neg hr', if_neg hwk']
  · rw [if_neg hr', if_neg hwk']
theorem tick_wk (M : CM) : (tickM M).wk = M.wk := by unfold tickM; split <;> rfl
theorem tick_bd (M : CM) : (tickM M).bd = M.bd := by unfold tickM; split <;> rfl
theorem tick_neg {M : CM} (h : M.left < 0) : tickM M = M := by unfold tickM; rw [if_neg (by omega)]
theorem restart_up {M : CM} (how : Int) (h : M.pend = none) : restartM M how = { M with left := -1, pend := none } := by unfold restartM; rw [h]
theorem restart_some {M : CM} (how : Int) {p : Pend} (h : M.pend = some p) : restartM M how = { stepped M p how with left := -1, pend := none } := by unfold restartM; rw [h]

/-- A manifest is noted: it is the newest one; or the machine falls, and behind that it or the one ahead of it is. -/
structure NoteOk (M : CM) (a : Nat) (o : Option Man) (m : Man) : Prop where
  end_ : (noteE M a (manTxt m) = 0 ∧ Nst (noteM M a (manTxt m)) (noteAt M a) (some m) ∧ (M.left < 0 → (noteM M a (manTxt m)).left = M.left)) ∨
    (noteE M a (manTxt m) = 9 ∧ ¬ M.left < 0 ∧ ∀ how, ∃ a', Nst (restartM (noteM M a (manTxt m)) how) a' o ∨ Nst (restartM (noteM M a (manTxt m)) how) a' (some m))
  wr : ∀ b, (noteM M a (manTxt m)).wr b ≤ M.wr b + 1
  left : ∀ n, M.left ≤ n → 0 ≤ n → (noteM M a (manTxt m)).left ≤ n
theorem upd_wr (f : Nat → Nat) (b c : Nat) : upd f b (f b + 1) c ≤ f c + 1 := by
  by_cases h : c = b
  · subst h; rw [upd_same]; exact Nat.le_refl _
  · rw [upd_other _ _ _ h]; omega
theorem note_nst {M : CM} {a : Nat} {o : Option Man} {m : Man} (h : Nst M a o) (hf : manFault m = 0) (hgt : ∀ m0, o = some m0 → m0.ep < m.ep) : NoteOk M a o m := by
  have hle := h.le
  have hT := (manTxt_le hf).1
  have hep := (manFault_ep hf).1
  have hlow := h.low hep hgt
  have hs := h.sound
  by_cases hfull : (M.pg a).length = 8
  · -- the other block is erased
    have h1 : noteAt M a = 1 - a := by unfold noteAt; rw [if_pos hfull]
    obtain ⟨e1, e2⟩ := erase_nst (b := 1 - a) h.up (by omega) (hs _ (by omega)).2 (hs _ (by omega)).1
    have hE0 : noteE0 M a = if M.left = 0 then 9 else 0 := by unfold noteE0; rw [if_pos hfull, e1]
    have hM0 : noteM0 M a = if M.left = 0 then { M with pend := some (.erase (1 - a)) } else wipeM (tickM M) (1 - a) [] := by unfold noteM0; rw [if_pos hfull, e2]
    by_cases hl0 : M.left = 0
    · have hE : noteE M a (manTxt m) = 9 := by unfold noteE; rw [hE0, if_pos hl0]; rfl
      have hM : noteM M a (manTxt m) = { M with pend := some (.erase (1 - a)) } := by unfold noteM; rw [hE0, hM0, if_pos hl0, if_pos hl0]; rfl
      refine ⟨.inr ⟨hE, by omega, fun how => ⟨a, .inl ?_⟩⟩, fun b => by rw [hM]; show M.wr b ≤ M.wr b + 1; omega, fun n hn _ => by rw [hM]; exact hn⟩
      rw [hM, restart_some how rfl]
      unfold stepped
      split
      · exact nst_wipe h (b := 1 - a) (l := []) (by omega) (by simp) pgM_nil rfl rfl rfl rfl
      · split
        · exact nst_wipe h (b := 1 - a) (l := List.replicate 8 .torn) (by omega) (by simp) pgM_torn8 rfl rfl rfl rfl
        · exact h.keep rfl rfl rfl rfl
    · obtain ⟨M1, hM1⟩ : ∃ M1, M1 = wipeM (tickM M) (1 - a) [] := ⟨_, rfl⟩
      have hpg1 : M1.pg = upd M.pg (1 - a) [] := by rw [hM1]; simp [wipeM, tick_pg]
      have hwk1 : M1.wk = M.wk := by rw [hM1]; simp [wipeM, tick_wk]
      have hbd1 : M1.bd = M.bd := by rw [hM1]; simp [wipeM, tick_bd]
      have hpn1 : M1.pend = none := by rw [hM1]; simp [wipeM, tick_pend, h.up]
      have hwr1 : ∀ b, M1.wr b ≤ M.wr b + 1 := fun b => by rw [hM1]; simp only [wipeM, tick_wr]; exact upd_wr M.wr (1 - a) b
      have hlf1 : ∀ n, M.left ≤ n → 0 ≤ n → M1.left ≤ n := fun n h0 h1 => by rw [hM1]; have := tick_left M; show (tickM M).left ≤ n; omega
      have hN1 : Nst M1 a o := nst_wipe h (b := 1 - a) (l := []) (by omega) (by simp) pgM_nil hpn1 hpg1 hwk1 hbd1
      have hlen1 : (M1.pg (1 - a)).length < 8 := by rw [hpg1, upd_same]; simp
      have hs1 := hN1.sound
      obtain ⟨w1, w2⟩ := write_nst (M := M1) (b := 1 - a) (s := manTxt m) hpn1 (by omega) (hs1 _ (by omega)).2 (hs1 _ (by omega)).1 (by omega) hlen1
      have hE : noteE M a (manTxt m) = if M1.left = 0 then 9 else 0 := by unfold noteE; rw [hE0, hM0, if_neg hl0, if_neg hl0, if_neg (by simp), h1, ← hM1, w1]
      have hM : noteM M a (manTxt m) = if M1.left = 0 then { M1 with pend := some (.write (1 - a) (padD (manTxt m))) } else layM (tickM M1) (1 - a) (.whole (padD (manTxt m))) := by
        unfold noteM; rw [hE0, hM0, if_neg hl0, if_neg hl0, if_neg (by simp), h1, ← hM1, w2]
      have hlow1 := hN1.low hep hgt
      by_cases hl1 : M1.left = 0
      · rw [if_pos hl1] at hE hM
        refine ⟨.inr ⟨hE, fun hneg => ?_, fun how => ?_⟩, fun b => by rw [hM]; exact hwr1 b, fun n h0 h1 => by rw [hM]; exact hlf1 n h0 h1⟩
        · rw [hM1] at hl1; have := tick_neg hneg; simp only [wipeM, this] at hl1; omega
        rw [hM, restart_some how rfl]
        unfold stepped
        split
        · exact ⟨1 - a, .inr (nst_lay (M := M1) (by omega) hf hlow1 hs1 hN1.len hlen1 rfl rfl rfl rfl)⟩
        · split
          · exact ⟨a, .inl (nst_torn hN1 hlen1 rfl rfl rfl rfl)⟩
          · exact ⟨a, .inl (hN1.keep rfl rfl rfl rfl)⟩
      · rw [if_neg hl1] at hE hM
        refine ⟨.inl ⟨hE, ?_, fun hneg => ?_⟩, fun b => by rw [hM]; simp only [layM, tick_wr]; exact hwr1 b, fun n h0 h1 => by rw [hM]; have := tick_left M1; have := hlf1 n h0 h1; show (tickM M1).left ≤ n; omega⟩
        · rw [h1, hM]
          exact nst_lay (M := M1) (by omega) hf hlow1 hs1 hN1.len hlen1 (by simp [layM, tick_pend, hpn1]) (by simp [layM, tick_pg]) (by simp [layM, tick_wk]) (by simp [layM, tick_bd])
        · have hm1 : M1.left = M.left := by rw [hM1, tick_neg hneg]; rfl
          rw [hM]; show (tickM M1).left = M.left
          rw [tick_neg (by omega), hm1]
  · have hlen : (M.pg a).length < 8 := by have := h.len a (by omega); omega
    have h1 : noteAt M a = a := by unfold noteAt; rw [if_neg hfull]
    have hE0 : noteE0 M a = 0 := by unfold noteE0; rw [if_neg hfull]
    have hM0 : noteM0 M a = M := by unfold noteM0; rw [if_neg hfull]
    obtain ⟨w1, w2⟩ := write_nst (M := M) (b := a) (s := manTxt m) h.up (by omega) (hs _ (by omega)).2 (hs _ (by omega)).1 (by omega) hlen
    have hE : noteE M a (manTxt m) = if M.left = 0 then 9 else 0 := by unfold noteE; rw [hE0, hM0, if_neg (by simp), h1, w1]
    have hM : noteM M a (manTxt m) = if M.left = 0 then { M with pend := some (.write a (padD (manTxt m))) } else layM (tickM M) a (.whole (padD (manTxt m))) := by
      unfold noteM; rw [hE0, hM0, if_neg (by simp), h1, w2]
    by_cases hl0 : M.left = 0
    · rw [if_pos hl0] at hE hM
      refine ⟨.inr ⟨hE, by omega, fun how => ?_⟩, fun b => by rw [hM]; show M.wr b ≤ M.wr b + 1; omega, fun n hn _ => by rw [hM]; exact hn⟩
      rw [hM, restart_some how rfl]
      unfold stepped
      split
      · exact ⟨a, .inr (nst_lay (M := M) hle hf hlow hs h.len hlen rfl rfl rfl rfl)⟩
      · split
        · exact ⟨a, .inl (nst_torn h hlen rfl rfl rfl rfl)⟩
        · exact ⟨a, .inl (h.keep rfl rfl rfl rfl)⟩
    · rw [if_neg hl0] at hE hM
      refine ⟨.inl ⟨hE, ?_, fun hneg => by rw [hM]; show (tickM M).left = M.left; rw [tick_neg hneg]⟩, fun b => by rw [hM]; simp only [layM, tick_wr]; omega, fun n h0 h1 => by rw [hM]; have := tick_left M; show (tickM M).left ≤ n; omega⟩
      rw [h1, hM]
      exact nst_lay (M := M) hle hf hlow hs h.len hlen (by simp [layM, tick_pend, h.up]) (by simp [layM, tick_pg]) (by simp [layM, tick_wk]) (by simp [layM, tick_bd])
theorem restart_wr (M : CM) (how : Int) (b : Nat) : (restartM M how).wr b ≤ M.wr b + 1 := by
  unfold restartM
  cases M.pend with
  | none => show M.wr b ≤ _; omega
  | some p =>
    show (stepped M p how).wr b ≤ _
    unfold stepped
    cases p with
    | write c d => split <;> (try split) <;> (show M.wr b ≤ _; omega)
    | erase c =>
      split
      · exact upd_wr M.wr c b
      · split
        · exact upd_wr M.wr c b
        · omega
theorem restart_left (M : CM) (how : Int) : (restartM M how).left = -1 := by
  unfold restartM; split <;> rfl
theorem new_nst : Nst newM 0 none := ⟨by omega, rfl, fun _ _ => ⟨rfl, rfl⟩, fun _ _ => by simp [newM], 0, rfl, fun b q m' _ _ h => by cases h⟩
end Go.Proofs.Ytpldeejagomfjaa
