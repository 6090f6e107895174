/- StoK StoL StoP. -/
import Derived.Test.YtkibgflbidkalaaGreatDoorStoRJ
import Derived.Test.YtkibgflbidkalaaGreatDoorStoDJ
import Derived.Test.YtkibgflbidkalaaGreatDoorStoEJ

/- A store in plain words: what keeps it; what becomes of it where the machine falls. -/
namespace Go.Proofs.YtkibgflbidkalaaGreatDoor
open Go.RowKit

theorem pageM_same {M M' : CM} {b : Nat} (h : M'.pg b = M.pg b) (p : Nat) : pageM M' b p = pageM M b p := by
  rw [pageM_pg, pageM_pg, h]
theorem Nst.keep2 {M M' : CM} {a : Nat} {o : Option Man} (h : Nst M a o) (hp : M'.pend = none) (h1 : ∀ b, b < 2 → M'.pg b = M.pg b) (h2 : ∀ b, b < 2 → M'.wk b = M.wk b) (h3 : ∀ b, b < 2 → M'.bd b = M.bd b) : Nst M' a o := by
  obtain ⟨p, hp1, hp2⟩ := h.new
  have hle := h.le
  refine ⟨h.le, hp, fun b hb => ⟨by rw [h2 b hb]; exact (h.sound b hb).1, by rw [h3 b hb]; exact (h.sound b hb).2⟩, fun b hb => by rw [h1 b hb]; exact h.len b hb, p, by rw [pageM_same (h1 a (by omega))]; exact hp1, fun b q m' hb hne hq => hp2 b q m' hb hne (by rw [pageM_same (h1 b hb)] at hq; exact hq)⟩
theorem scan_of : ∀ (l seen : List Int), (∀ x ∈ l, 2 ≤ x ∧ x < 24) → l.Nodup → (∀ x ∈ l, x ∉ seen) → scan seen l = 0
  | [], _, _, _, _ => rfl
  | x :: r, seen, hr, hn, hs => by
    have h1 := hr x (by simp)
    obtain ⟨hx, hn'⟩ := List.nodup_cons.1 hn
    rw [scan, if_neg (by omega), if_neg (hs x (by simp))]
    exact scan_of r (seen ++ [x]) (fun y hy => hr y (List.mem_cons_of_mem _ hy)) hn' (fun y hy hm => by
      rcases List.mem_append.1 hm with hm | hm
      · exact hs y (List.mem_cons_of_mem _ hy) hm
      · simp at hm; subst hm; exact hx hy)
theorem man_of {m : Man} (h1 : 1 ≤ m.ep) (h2 : m.ep ≤ 100000) (hr : ∀ x ∈ m.lg :: (m.nw ++ m.od), 2 ≤ x ∧ x < 24) (hn : (m.lg :: (m.nw ++ m.od)).Nodup) : manFault m = 0 := by
  unfold manFault manF
  rw [if_neg (by omega)]
  exact scan_of _ [] hr hn (by simp)
theorem man_names {m : Man} (h : manFault m = 0) : (∀ x ∈ m.lg :: (m.nw ++ m.od), 2 ≤ x ∧ x < 24) ∧ (m.lg :: (m.nw ++ m.od)).Nodup := by
  obtain ⟨_, hS⟩ := manF_zero h
  obtain ⟨h1, h2, _⟩ := scan_zero hS
  exact ⟨h1, h2⟩
theorem Inv.keep {n n' : Nat} {M M' : CM} {m : Man} {a : Nat} {hand : List Ent} {N O : List Tb} (h : Inv n M m a hand N O) (hpg : ∀ b : Nat, (b : Int) ∈ m.lg :: (m.nw ++ m.od) → M'.pg b = M.pg b) (hlow : ∀ b, b < 2 → M'.pg b = M.pg b) (hp : M'.pend = none) (hwk : M'.wk = M.wk)
    (hbw : ∀ b, M'.bd b = true → M'.wk b = true) (hwr : ∀ b, M'.wr b ≤ n') (hn : n ≤ n') : Inv n' M' m a hand N O := by
  have hb01 : ∀ b, b < 2 → M'.bd b = M.bd b := fun b hb => by
    have h1 := (h.nst.sound b hb)
    rw [h1.2]
    cases hh : M'.bd b with
    | false => rfl
    | true => have := hbw b hh; rw [hwk, h1.1] at this; cases this
  obtain ⟨g, hg, hl⟩ := h.lg
  refine ⟨h.nst.keep2 hp hlow (fun b _ => by rw [hwk]) hb01, h.ok, by have := h.ep; omega, hwr, h.nw, h.od, fun x hx => ?_, fun x hx => ?_, ⟨g, hg, hl.same (hpg g (by rw [hg]; simp))⟩, h.ris, h.live, h.few, h.few', h.rows, h.trows, hbw, by rw [hwk]; exact h.wk⟩
  · have ht := h.tn x hx
    exact ⟨ht.ok, ht.lt, by rw [hpg x.b (by rw [h.nw]; simp; exact .inr (.inl ⟨x, hx, rfl⟩))]; exact ht.pg⟩
  · have ht := h.told x hx
    exact ⟨ht.ok, ht.lt, by rw [hpg x.b (by rw [h.od]; simp; exact .inr (.inr ⟨x, hx, rfl⟩))]; exact ht.pg⟩
theorem restart_far {M : CM} {p : Pend} (hp : M.pend = some p) (how : Int) : (∀ b, ¬ b = pendB p → (restartM M how).pg b = M.pg b) ∧ (restartM M how).wk = M.wk ∧ (restartM M how).bd = M.bd ∧ (restartM M how).pend = none := by
  rw [restart_some how hp]
  unfold stepped
  cases p with
  | write b d =>
    refine ⟨fun c hc => ?_, ?_, ?_, rfl⟩
    · split
      · show upd M.pg b _ c = _; exact upd_other _ _ _ hc
      · split
        · show upd M.pg b _ c = _; exact upd_other _ _ _ hc
        · rfl
    · split
      · rfl
      · split <;> rfl
    · split
      · rfl
      · split <;> rfl
  | erase b =>
    refine ⟨fun c hc => ?_, ?_, ?_, rfl⟩
    · split
      · show upd M.pg b _ c = _; exact upd_other _ _ _ hc
      · split
        · show upd M.pg b _ c = _; exact upd_other _ _ _ hc
        · rfl
    · split
      · rfl
      · split <;> rfl
    · split
      · rfl
      · split <;> rfl
theorem Inv.fall {n : Nat} {M M' : CM} {m : Man} {a : Nat} {hand : List Ent} {N O : List Tb} {L' : List Int} {p : Pend} (h : Inv n M m a hand N O) (hA : Adv (m.lg :: (m.nw ++ m.od)) M L' M') (hp : M'.pend = some p) (h2 : 2 ≤ pendB p) (hu : ((pendB p : Nat) : Int) ∉ m.lg :: (m.nw ++ m.od)) (how : Int) : Inv (n + 2) (restartM M' how) m a hand N O := by
  obtain ⟨r1, r2, r3, r4⟩ := restart_far hp how
  refine h.keep (fun b hb => ?_) (fun b hb => ?_) r4 (by rw [r2, hA.wk]) (fun b hb => ?_) (fun b => ?_) (by omega)
  · rw [r1 b (fun e => hu (e ▸ hb)), hA.pg b hb]
  · rw [r1 b (by omega), hA.low b hb]
  · rw [r3] at hb
    rw [r2, hA.wk]
    rcases hA.bw b hb with h' | h'
    · exact h.bw b h'
    · exact h'
  · have h1 := restart_wr M' how b
    have h3 := (hA.wr b).1
    have := h.wr b
    omega
theorem Inv.adv {n : Nat} {M M' : CM} {m : Man} {a : Nat} {hand : List Ent} {N O : List Tb} {L' : List Int} (h : Inv n M m a hand N O) (hA : Adv (m.lg :: (m.nw ++ m.od)) M L' M') (hp : M'.pend = none) : Inv (n + 1) M' m a hand N O := by
  refine h.keep (fun b hb => hA.pg b hb) (fun b hb => hA.low b hb) hp hA.wk (fun b hb => ?_) (fun b => ?_) (by omega)
  · rw [hA.wk]
    rcases hA.bw b hb with h' | h'
    · exact h.bw b h'
    · exact h'
  · have h3 := (hA.wr b).1
    have := h.wr b
    omega
structure NoteFar (M : CM) (a : Nat) (s : ByteArray) : Prop where
  pg : ∀ b, 2 ≤ b → (noteM M a s).pg b = M.pg b
  wk : (noteM M a s).wk = M.wk
  bd : (noteM M a s).bd = M.bd
  pend : ∀ p, (noteM M a s).pend = some p → pendB p < 2
theorem note_far {M : CM} {a : Nat} {o : Option Man} {s : ByteArray} (h : Nst M a o) (hs : s.size ≤ 64) : NoteFar M a s := by
  have hle := h.le
  have wr : ∀ (M1 : CM) (b : Nat), b < 2 → M1.pend = none → M1.wk b = false → M1.bd b = false → (M1.pg b).length < 8 → (∀ c, 2 ≤ c → (writeM M1 (b : Int) s).pg c = M1.pg c) ∧ (writeM M1 (b : Int) s).wk = M1.wk ∧ (writeM M1 (b : Int) s).bd = M1.bd ∧ ∀ p, (writeM M1 (b : Int) s).pend = some p → pendB p < 2 := fun M1 b hb h1 h2 h3 h4 => by
    obtain ⟨_, e⟩ := write_nst (s := s) h1 (show b < 24 by omega) h3 h2 hs h4
    rw [e]
    split
    · refine ⟨fun c _ => rfl, rfl, rfl, fun p hp => ?_⟩
      simp only [Option.some.injEq] at hp
      subst hp; exact hb
    · refine ⟨fun c hc => ?_, tick_wk _, tick_bd _, fun p hp => ?_⟩
      · show upd (tickM M1).pg b _ c = _; rw [upd_other _ _ _ (by omega), tick_pg]
      · have : (tickM M1).pend = some p := hp
        rw [tick_pend, h1] at this; cases this
  by_cases h8 : (M.pg a).length = 8
  · obtain ⟨e1, e2⟩ := erase_nst (b := 1 - a) h.up (by omega) (h.sound (1 - a) (by omega)).2 (h.sound (1 - a) (by omega)).1
    by_cases hl : M.left = 0
    · rw [if_pos hl] at e1 e2
      have hM : noteM M a s = { M with pend := some (.erase (1 - a)) } := by
        unfold noteM noteE0 noteM0
        rw [if_pos h8, if_pos h8, e1, e2, if_pos (by simp)]
      rw [← hM] at e2
      refine ⟨fun b _ => by rw [hM], by rw [hM], by rw [hM], fun p hp => ?_⟩
      rw [hM] at hp
      simp only [Option.some.injEq] at hp
      subst hp; show 1 - a < 2; omega
    · rw [if_neg hl] at e1 e2
      have hM : noteM M a s = writeM (wipeM (tickM M) (1 - a) []) ((1 - a : Nat) : Int) s := by
        unfold noteM noteE0 noteM0 noteAt
        rw [if_pos h8, if_pos h8, if_pos h8, e1, e2, if_neg (by simp)]
      obtain ⟨w1, w2, w3, w4⟩ := wr (wipeM (tickM M) (1 - a) []) (1 - a) (by omega) (by show (tickM M).pend = none; rw [tick_pend]; exact h.up) (by show (tickM M).wk _ = false; rw [tick_wk]; exact (h.sound (1 - a) (by omega)).1) (by show (tickM M).bd _ = false; rw [tick_bd]; exact (h.sound (1 - a) (by omega)).2) (by show (upd (tickM M).pg (1 - a) [] (1 - a)).length < 8; rw [upd_same]; simp)
      rw [← hM] at w1 w2 w3 w4
      refine ⟨fun b hb => ?_, by rw [w2]; exact tick_wk M, by rw [w3]; exact tick_bd M, w4⟩
      rw [w1 b hb]
      show upd (tickM M).pg (1 - a) [] b = _
      rw [upd_other _ _ _ (by omega), tick_pg]
  · have hM : noteM M a s = writeM M (a : Int) s := by
      unfold noteM noteE0 noteM0 noteAt
      rw [if_neg h8, if_neg h8, if_neg h8, if_neg (by simp)]
    have h8' := h.len a (by omega)
    obtain ⟨w1, w2, w3, w4⟩ := wr M a (by omega) h.up (h.sound a (by omega)).1 (h.sound a (by omega)).2 (by omega)
    rw [← hM] at w1 w2 w3 w4
    exact ⟨w1, w2, w3, w4⟩
theorem write_down {M : CM} {b : Nat} {s : ByteArray} (hp : M.pend = none) (hb : b < 24) (hbd : M.bd b = false) (hwk : M.wk b = false) (hs : s.size ≤ 64) (hl : (M.pg b).length < 8) (h9 : writeE M (b : Int) s = 9) : ∃ p, (writeM M (b : Int) s).pend = some p := by
  obtain ⟨e1, e2⟩ := write_nst (s := s) hp hb hbd hwk hs hl
  rw [e1] at h9
  rw [e2]
  split at h9
  · rename_i h0; rw [if_pos h0]; exact ⟨_, rfl⟩
  · cases h9
theorem note_down_pend {M : CM} {a : Nat} {o : Option Man} {s : ByteArray} (h : Nst M a o) (hs : s.size ≤ 64) (h9 : noteE M a s = 9) : ∃ p, (noteM M a s).pend = some p := by
  have hle := h.le
  by_cases h8 : (M.pg a).length = 8
  · obtain ⟨e1, e2⟩ := erase_nst (b := 1 - a) h.up (by omega) (h.sound (1 - a) (by omega)).2 (h.sound (1 - a) (by omega)).1
    by_cases hl : M.left = 0
    · rw [if_pos hl] at e1 e2
      have hM : noteM M a s = { M with pend := some (.erase (1 - a)) } := by
        unfold noteM noteE0 noteM0
        rw [if_pos h8, if_pos h8, e1, e2, if_pos (by simp)]
      rw [hM]; exact ⟨_, rfl⟩
    · rw [if_neg hl] at e1 e2
      have hM : noteM M a s = writeM (wipeM (tickM M) (1 - a) []) ((1 - a : Nat) : Int) s ∧ noteE M a s = writeE (wipeM (tickM M) (1 - a) []) ((1 - a : Nat) : Int) s := by
        unfold noteM noteE noteE0 noteM0 noteAt
        rw [if_pos h8, if_pos h8, if_pos h8, e1, e2, if_neg (by simp), if_neg (by simp)]
        exact ⟨rfl, rfl⟩
      rw [hM.2] at h9
      rw [hM.1]
      exact write_down (by show (tickM M).pend = none; rw [tick_pend]; exact h.up) (by omega) (by show (tickM M).bd _ = false; rw [tick_bd]; exact (h.sound (1 - a) (by omega)).2) (by show (tickM M).wk _ = false; rw [tick_wk]; exact (h.sound (1 - a) (by omega)).1) hs (by show (upd (tickM M).pg (1 - a) [] (1 - a)).length < 8; rw [upd_same]; simp) h9
  · have hM : noteM M a s = writeM M (a : Int) s ∧ noteE M a s = writeE M (a : Int) s := by
      unfold noteM noteE noteE0 noteM0 noteAt
      rw [if_neg h8, if_neg h8, if_neg h8, if_neg (by simp), if_neg (by simp)]
      exact ⟨rfl, rfl⟩
    have h8' := h.len a (by omega)
    rw [hM.2] at h9
    rw [hM.1]
    exact write_down h.up (by omega) (h.sound a (by omega)).2 (h.sound a (by omega)).1 hs (by omega) h9
def FellOk (n : Nat) (M : CM) (P : List Ent → Prop) : Prop := ∀ how, ∃ m a hand N O, Inv n (restartM M how) m a hand N O ∧ P (rowsE hand N O) ∧ (restartM M how).left = -1 ∧ (restartM M how).wk = M.wk
theorem all_mem : ∀ (ls : List (List Ent)) (e : Ent), e ∈ allE ls → ∃ l ∈ ls, e ∈ l
  | [], e, h => by cases h
  | a :: r, e, h => by
    rcases puts_mem a (allE r) e h with h' | h'
    · exact ⟨a, by simp, h'⟩
    · obtain ⟨l, h1, h2⟩ := all_mem r e h'
      exact ⟨l, List.mem_cons_of_mem _ h1, h2⟩
theorem tabRows_ok {n : Nat} {M : CM} {m : Man} {a : Nat} {hand : List Ent} {N O : List Tb} (h : Inv n M m a hand N O) : ∀ e ∈ tabRows N O, faultE e = 0 := fun e he => by
  obtain ⟨l, hl, hel⟩ := all_mem _ e (List.mem_filter.1 (show e ∈ List.filter _ _ from he)).1
  rcases List.mem_append.1 hl with hl | hl
  · obtain ⟨x, hx, rfl⟩ := List.mem_map.1 hl
    exact tabF_fault (h.tn x hx).ok e hel
  · obtain ⟨x, hx, rfl⟩ := List.mem_map.1 hl
    exact tabF_fault (h.told x hx).ok e hel
end Go.Proofs.YtkibgflbidkalaaGreatDoor

/- A store in plain words: tables are put together; what is at hand is laid. -/
namespace Go.Proofs.YtkibgflbidkalaaGreatDoor
open Go.RowKit

def zipTb (bs : List Nat) (ps : List (List Ent)) : List Tb := List.zipWith Tb.mk bs ps
theorem zipTb_es : ∀ {bs : List Nat} {ps : List (List Ent)}, bs.length = ps.length → tabsE (zipTb bs ps) = ps
  | [], [], _ => rfl
  | b :: bs, p :: ps, h => by
    show p :: tabsE (zipTb bs ps) = _
    rw [zipTb_es (by simpa using h)]
theorem zipTb_b : ∀ {bs : List Nat} {ps : List (List Ent)}, bs.length = ps.length → (zipTb bs ps).map (fun x => (x.b : Int)) = intsN bs
  | [], [], _ => rfl
  | b :: bs, p :: ps, h => by
    show (b : Int) :: (zipTb bs ps).map (fun x => (x.b : Int)) = (b : Int) :: intsN bs
    rw [zipTb_b (by simpa using h)]
theorem zipTb_get : ∀ {bs : List Nat} {ps : List (List Ent)} {x : Tb}, x ∈ zipTb bs ps → ∃ i : Nat, bs[i]? = some x.b ∧ ps[i]? = some x.es
  | b :: bs, p :: ps, x, h => by
    rcases List.mem_cons.1 (show x ∈ Tb.mk b p :: zipTb bs ps from h) with rfl | h
    · exact ⟨0, rfl, rfl⟩
    · obtain ⟨i, h1, h2⟩ := zipTb_get h
      exact ⟨i + 1, h1, h2⟩
  | [], ps, x, h => by simp [zipTb] at h
  | b :: bs, [], x, h => by simp [zipTb] at h
theorem zipTb_len {bs : List Nat} {ps : List (List Ent)} (h : bs.length = ps.length) : (zipTb bs ps).length = ps.length := by simp [zipTb, h]
theorem names_len {n : Nat} {M : CM} {m : Man} {a : Nat} {hand : List Ent} {N O : List Tb} (h : Inv n M m a hand N O) : (m.lg :: (m.nw ++ m.od)).length = 1 + N.length + O.length := by
  rw [h.nw, h.od]; simp; omega
theorem lay_end {n : Nat} {M : CM} {m : Man} {a : Nat} {hand : List Ent} {N O : List Tb} (h : Inv n M m a hand N O) {L : List Int} {M0 : CM} (hA : Adv (m.lg :: (m.nw ++ m.od)) M L M0) (hp : M0.pend = none) (hgd : ∀ k, k ≤ 6 → k < goodN M.wk L + 1) {ps : List (List Ent)} (hps : ∀ p ∈ ps, tabF p = 0) (hpl : ps.length ≤ 6) :
    ((layS M0 L ps).e = 0 ∧ LaidOk M0 L ps (layS M0 L ps).M (layS M0 L ps).L (layS M0 L ps).bs) ∨ ((layS M0 L ps).e = 9 ∧ ¬ M.left < 0 ∧ (layS M0 L ps).M.wk = M.wk ∧ FellOk (n + 3) (layS M0 L ps).M (· = rowsE hand N O)) := by
  have hbw0 : ∀ b, M0.bd b = true → M0.wk b = true := fun b hb => by
    rw [hA.wk]
    rcases hA.bw b hb with h' | h'
    · exact h.bw b h'
    · exact h'
  by_cases he : (layS M0 L ps).e = 0
  · exact .inl ⟨he, (layS_laid M0 L _ ps rfl he).ok hp hbw0 hps⟩
  · obtain ⟨qs, p, M1, L1, bs, b, h1, h2, h3, h4, h5⟩ := (layS_bad M0 L _ ps rfl he).ex
    have hO := h1.ok hp hbw0 (fun q hq => hps q (h2 q hq))
    have hC := h5.ok (rdTab_ok (hps p h3)) hO.up hO.bw
    refine .inr ?_
    rcases hC.end_ with ⟨h0, _⟩ | ⟨h8, hg, _⟩ | ⟨h9, hl, q, hq1, hq2, hq3, hq4⟩
    · exact absurd h0 he
    · have hg1 := hO.good
      have hwk1 : M1.wk = M.wk := by rw [hO.adv.wk, hA.wk]
      rw [hwk1] at hg
      rw [hA.wk] at hg1
      have := hgd (qs.length + 1) (by omega)
      omega
    · have hA3 := (hA.trans hO.adv).trans hC.adv
      have hl0 : ¬ M.left < 0 := fun hn => hl (by
        rw [hO.adv.left (by rw [hA.left hn]; exact hn), hA.left hn]; exact hn)
      refine ⟨h9, hl0, hA3.wk, fun how => ⟨m, a, hand, N, O, ?_, rfl, restart_left _ _, (restart_far hq1 how).2.1⟩⟩
      have := h.fall hA3 hq1 hq2 (fun hm => hq4 (hO.adv.mono _ (hA.mono _ hm))) how
      exact this.keep (fun _ _ => rfl) (fun _ _ => rfl) this.nst.up rfl this.bw (fun b => by have := this.wr b; omega) (by omega)
theorem good_few {n : Nat} {M : CM} {m : Man} {a : Nat} {hand : List Ent} {N O : List Tb} (h : Inv n M m a hand N O) : 7 ≤ goodN M.wk (m.lg :: (m.nw ++ m.od)) := by
  have h1 := good_ge M.wk (m.lg :: (m.nw ++ m.od))
  have h2 := names_len h
  have h3 := h.few
  have h4 := h.few'
  have h5 := h.wk
  omega
structure Next (M : CM) (m' : Man) (hand : List Ent) (N O : List Tb) : Prop where
  ok : manFault m' = 0
  nw : m'.nw = N.map (fun x => (x.b : Int))
  od : m'.od = O.map (fun x => (x.b : Int))
  tn : ∀ x ∈ N, TabAt M x.b x.es
  told : ∀ x ∈ O, TabAt M x.b x.es
  lg : ∃ g : Nat, m'.lg = (g : Int) ∧ LogAt M g hand
  ris : Ris (tabsE O).flatten
  live : ∀ e ∈ (tabsE O).flatten, e.gone = false
  few : N.length ≤ 5
  few' : O.length ≤ 3
  rows : (rowsE hand N O).length ≤ 40
  trows : (tabRows N O).length ≤ 40
theorem Next.inv {n : Nat} {M M' : CM} {m' : Man} {a : Nat} {hand : List Ent} {N O : List Tb} (h : Next M m' hand N O) (hpg : ∀ b, 2 ≤ b → M'.pg b = M.pg b) (hn : Nst M' a (some m')) (hep : m'.ep ≤ n) (hwr : ∀ b, M'.wr b ≤ n) (hbw : ∀ b, M'.bd b = true → M'.wk b = true) (hwk : wkN M'.wk ≤ 6) : Inv n M' m' a hand N O := by
  obtain ⟨g, hg, hl⟩ := h.lg
  have hnm := (man_names h.ok).1
  have hnw := h.nw
  have hod := h.od
  refine ⟨hn, h.ok, hep, hwr, h.nw, h.od, fun x hx => ?_, fun x hx => ?_, ⟨g, hg, hl.same (hpg g ?_)⟩, h.ris, h.live, h.few, h.few', h.rows, h.trows, hbw, hwk⟩
  · have ht := h.tn x hx
    have := hnm (x.b : Int) (by rw [hnw]; simp; exact .inr (.inl ⟨x, hx, rfl⟩))
    exact ⟨ht.ok, ht.lt, by rw [hpg x.b (by omega)]; exact ht.pg⟩
  · have ht := h.told x hx
    have := hnm (x.b : Int) (by rw [hod]; simp; exact .inr (.inr ⟨x, hx, rfl⟩))
    exact ⟨ht.ok, ht.lt, by rw [hpg x.b (by omega)]; exact ht.pg⟩
  · have := hnm m'.lg (by simp)
    omega
theorem note_end {n : Nat} {M M1 : CM} {m m' : Man} {a : Nat} {hand hand' : List Ent} {N O N' O' : List Tb} {L : List Int} (h : Inv n M m a hand N O) (hA : Adv (m.lg :: (m.nw ++ m.od)) M L M1) (hp : M1.pend = none) (hN : Next M1 m' hand' N' O') (hep : m'.ep = m.ep + 1) (hrow : rowsE hand' N' O' = rowsE hand N O) :
    (noteE M1 a (manTxt m') = 0 ∧ Inv (n + 2) (noteM M1 a (manTxt m')) m' (noteAt M1 a) hand' N' O' ∧ (noteM M1 a (manTxt m')).pend = none ∧ (noteM M1 a (manTxt m')).wk = M.wk ∧ (M.left < 0 → (noteM M1 a (manTxt m')).left = M.left) ∧ (∀ k, M.left ≤ k → 0 ≤ k → (noteM M1 a (manTxt m')).left ≤ k)) ∨
    (noteE M1 a (manTxt m') = 9 ∧ ¬ M.left < 0 ∧ (noteM M1 a (manTxt m')).wk = M.wk ∧ FellOk (n + 3) (noteM M1 a (manTxt m')) (· = rowsE hand N O)) := by
  have h1 := h.adv hA hp
  have hne := note_nst h1.nst hN.ok (fun m0 e => by cases e; omega)
  have hfar := note_far (s := manTxt m') h1.nst (by have := (manTxt_le hN.ok).1; omega)
  have hep0 := h.ep
  have hwr2 : ∀ b, (noteM M1 a (manTxt m')).wr b ≤ n + 2 := fun b => by have := hne.wr b; have := h1.wr b; omega
  have hbw2 : ∀ b, (noteM M1 a (manTxt m')).bd b = true → (noteM M1 a (manTxt m')).wk b = true := fun b hb => by rw [hfar.bd] at hb; rw [hfar.wk]; exact h1.bw b hb
  rcases hne.end_ with ⟨e0, e1, e2⟩ | ⟨e0, e1, e2⟩
  · refine .inl ⟨e0, hN.inv hfar.pg e1 (by omega) hwr2 hbw2 (by rw [hfar.wk]; exact h1.wk), e1.up, by rw [hfar.wk, hA.wk], fun hl => ?_, fun k k1 k2 => hne.left k (hA.leq k k1 k2) k2⟩
    rw [e2 (by rw [hA.left hl]; exact hl), hA.left hl]
  · refine .inr ⟨e0, fun hl => e1 (by rw [hA.left hl]; exact hl), by rw [hfar.wk, hA.wk], fun how => ?_⟩
    have hpend : ∃ p, (noteM M1 a (manTxt m')).pend = some p := by
      cases hh : (noteM M1 a (manTxt m')).pend with
      | some p => exact ⟨p, rfl⟩
      | none =>
        exfalso
        obtain ⟨p, hp⟩ := note_down_pend h1.nst (by have := (manTxt_le hN.ok).1; omega) e0
        rw [hh] at hp; cases hp
    obtain ⟨p, hpp⟩ := hpend
    have hp2 := hfar.pend p hpp
    obtain ⟨r1, r2, r3, r4⟩ := restart_far hpp how
    have hwr3 : ∀ b, (restartM (noteM M1 a (manTxt m')) how).wr b ≤ n + 3 := fun b => by have := restart_wr (noteM M1 a (manTxt m')) how b; have := hwr2 b; omega
    have hbw3 : ∀ b, (restartM (noteM M1 a (manTxt m')) how).bd b = true → (restartM (noteM M1 a (manTxt m')) how).wk b = true := fun b hb => by rw [r3] at hb; rw [r2]; exact hbw2 b hb
    have hpg3 : ∀ b, 2 ≤ b → (restartM (noteM M1 a (manTxt m')) how).pg b = M1.pg b := fun b hb => by rw [r1 b (by omega), hfar.pg b hb]
    have hwk3 : wkN (restartM (noteM M1 a (manTxt m')) how).wk ≤ 6 := by rw [r2, hfar.wk]; exact h1.wk
    obtain ⟨a', hn | hn⟩ := e2 how
    · refine ⟨m, a', hand, N, O, ?_, rfl, restart_left _ _, r2⟩
      have hX : Next M1 m hand N O := ⟨h1.ok, h1.nw, h1.od, h1.tn, h1.told, h1.lg, h1.ris, h1.live, h1.few, h1.few', h1.rows, h1.trows⟩
      exact hX.inv hpg3 hn (by omega) hwr3 hbw3 hwk3
    · exact ⟨m', a', hand', N', O', hN.inv hpg3 hn (by omega) hwr3 hbw3 hwk3, hrow, restart_left _ _, r2⟩
end Go.Proofs.YtkibgflbidkalaaGreatDoor

/- A store in plain words: Compact, layHand. -/
namespace Go.Proofs.YtkibgflbidkalaaGreatDoor
open Go.RowKit

theorem getE_cons_all {l : List Ent} {ls : List (List Ent)} (hl : Ris l) (k : ByteArray) : getE (allE (l :: ls)) k = (getE l k).or (getE (allE ls) k) := getE_puts hl (Ris.all ls) k
theorem getE_app_all {a b : List (List Ent)} (ha : ∀ l ∈ a, Ris l) (k : ByteArray) : getE (allE (a ++ b)) k = (getE (allE a) k).or (getE (allE b) k) := by
  rw [allE_app ha, getE_two _ _ (Ris.all a) (Ris.all b)]
theorem liveO_idem (o : Option Ent) : liveO (liveO o) = liveO o := by
  cases o with
  | none => rfl
  | some e =>
    unfold liveO
    by_cases h : e.gone = true
    · simp [h]
    · simp [h]
theorem liveO_or (p o : Option Ent) : liveO (p.or (liveO o)) = liveO (p.or o) := by
  cases p with
  | none => exact liveO_idem o
  | some e => rfl
theorem tabs_ris {n : Nat} {M : CM} {m : Man} {a : Nat} {hand : List Ent} {N O : List Tb} (h : Inv n M m a hand N O) : (∀ l ∈ tabsE N, Ris l) ∧ ∀ l ∈ tabsE O, Ris l := by
  refine ⟨fun l hl => ?_, fun l hl => ?_⟩
  · obtain ⟨x, hx, rfl⟩ := List.mem_map.1 hl
    exact tabF_ris (h.tn x hx).ok
  · obtain ⟨x, hx, rfl⟩ := List.mem_map.1 hl
    exact tabF_ris (h.told x hx).ok
theorem Inv.hand {n : Nat} {M : CM} {m : Man} {a : Nat} {hand : List Ent} {N O : List Tb} (h : Inv n M m a hand N O) : Ris hand ∧ (∀ e ∈ hand, faultE e = 0) ∧ hand.length ≤ 32 := by
  obtain ⟨g, _, hl⟩ := h.lg
  exact hl.ris
theorem ints_nodup {bs : List Nat} (h : bs.Nodup) : (intsN bs).Nodup := by
  unfold intsN
  induction bs with
  | nil => simp
  | cons b r ih =>
    obtain ⟨h1, h2⟩ := List.nodup_cons.1 h
    rw [List.map_cons, List.nodup_cons]
    refine ⟨fun hm => ?_, ih h2⟩
    simp at hm
    obtain ⟨c, hc, e⟩ := hm
    obtain rfl : c = b := by omega
    exact h1 hc
def compM (m : Man) (bs : List Nat) : Man := ⟨m.ep + 1, m.lg, [], intsN bs⟩
theorem tabRows_live (N O : List Tb) : ∀ e ∈ tabRows N O, e.gone = false := fun e he => by
  have := (List.mem_filter.1 (show e ∈ List.filter _ _ from he)).2
  simpa using this
theorem compact_next {n : Nat} {M M1 : CM} {m : Man} {a : Nat} {hand : List Ent} {N O : List Tb} {L : List Int} {bs : List Nat} (h : Inv n M m a hand N O) (hn : n + 1 ≤ 100000) (hL : LaidOk M (m.lg :: (m.nw ++ m.od)) (partsE 14 (tabRows N O)) M1 L bs) :
    Next M1 (compM m bs) hand [] (zipTb bs (partsE 14 (tabRows N O))) ∧ rowsE hand [] (zipTb bs (partsE 14 (tabRows N O))) = rowsE hand N O := by
  have hes := zipTb_es hL.len
  have hR := tabRows_ris N O
  have hps := partsE_ris (n := 14) hR
  obtain ⟨hh1, hh2, hh3⟩ := h.hand
  have hlv := tabRows_live N O
  have key : ∀ k, getE (allE (partsE 14 (tabRows N O))) k = liveO (getE (allE (tabsE N ++ tabsE O)) k) := fun k => by
    rw [getE_parts hR]; exact getE_live (Ris.all _) k
  have hrow : rowsE hand [] (zipTb bs (partsE 14 (tabRows N O))) = rowsE hand N O := by
    refine live_ext (Ris.all _) (Ris.all _) fun k => ?_
    rw [getE_cons_all hh1, getE_cons_all hh1, show tabsE [] ++ tabsE (zipTb bs (partsE 14 (tabRows N O))) = partsE 14 (tabRows N O) by rw [hes]; rfl, key, liveO_or]
  have htr : tabRows [] (zipTb bs (partsE 14 (tabRows N O))) = tabRows N O := by
    unfold tabRows
    rw [show tabsE [] ++ tabsE (zipTb bs (partsE 14 (liveE (allE (tabsE N ++ tabsE O))))) = partsE 14 (liveE (allE (tabsE N ++ tabsE O))) by
      have := hes; unfold tabRows at this; rw [this]; rfl]
    refine live_ext (Ris.all _) (Ris.all _) fun k => ?_
    have := key k
    unfold tabRows at this
    rw [this, liveO_idem]
  obtain ⟨hnm1, hnm2⟩ := man_names h.ok
  have hep := h.ep
  have hep1 := (manFault_ep h.ok).1
  have hpl : (partsE 14 (tabRows N O)).length ≤ 3 := by
    rw [partsE_len]; unfold partsN; have := h.trows; omega
  obtain ⟨g, hg, hlog⟩ := h.lg
  refine ⟨⟨man_of (by show 1 ≤ m.ep + 1; omega) (by show m.ep + 1 ≤ 100000; omega) (fun x hx => ?_) ?_, rfl, ?_, fun x hx => (by cases hx), fun x hx => ?_, ⟨g, hg, hlog.same (hL.adv.pg g (by rw [← hg]; simp))⟩, ?_, ?_, by simp, ?_, by rw [hrow]; exact h.rows, by rw [htr]; exact h.trows⟩, hrow⟩
  · rcases List.mem_cons.1 (show x ∈ m.lg :: ([] ++ intsN bs) from hx) with rfl | hx
    · exact hnm1 _ (by simp)
    · simp [intsN] at hx
      obtain ⟨b, hb, rfl⟩ := hx
      have := hL.at_ b hb
      omega
  · show (m.lg :: ([] ++ intsN bs)).Nodup
    rw [List.nil_append, List.nodup_cons]
    refine ⟨fun hm => ?_, ?_⟩
    · simp [intsN] at hm
      obtain ⟨b, hb, e⟩ := hm
      exact (hL.at_ b hb).2.2.1 (by rw [e]; simp)
    · exact ints_nodup hL.nodup
  · show intsN bs = _
    rw [zipTb_b hL.len]
  · obtain ⟨i, h1, h2⟩ := zipTb_get hx
    exact hL.tab i x.b x.es h1 h2
  · rw [hes, partsE_flat 14 (by omega)]; exact hR
  · rw [hes, partsE_flat 14 (by omega)]; exact hlv
  · rw [zipTb_len hL.len]; exact hpl
def layHM (m : Man) (b : Nat) (bs : List Nat) : Man := ⟨m.ep + 1, (b : Int), intsN bs ++ m.nw, m.od⟩
theorem layHand_next {n : Nat} {M M1 M2 : CM} {m : Man} {a : Nat} {hand : List Ent} {N O : List Tb} {L L2 : List Int} {bs : List Nat} {b : Nat} (h : Inv n M m a hand N O) (hn : n + 1 ≤ 100000) (hN2 : N.length ≤ 2) (hL : LaidOk M (m.lg :: (m.nw ++ m.od)) (partsE 14 hand) M1 L bs)
    (hC : ClaimOk (fun M b => M.pg b = []) M1 L M2 L2 b 0) :
    Next M2 (layHM m b bs) [] (zipTb bs (partsE 14 hand) ++ N) O ∧ rowsE [] (zipTb bs (partsE 14 hand) ++ N) O = rowsE hand N O := by
  have hes := zipTb_es hL.len
  obtain ⟨hh1, hh2, hh3⟩ := h.hand
  have hps := partsE_ris (n := 14) hh1
  obtain ⟨hNr, hOr⟩ := tabs_ris h
  obtain ⟨_, c1, c2, c3, c4, c5, c6, _⟩ | ⟨c, _⟩ | ⟨c, _⟩ := hC.end_
  · have hte : tabsE (zipTb bs (partsE 14 hand) ++ N) = partsE 14 hand ++ tabsE N := by unfold tabsE at hes ⊢; rw [List.map_append, hes]
    have key : ∀ k, getE (allE (tabsE (zipTb bs (partsE 14 hand) ++ N) ++ tabsE O)) k = getE (allE (hand :: (tabsE N ++ tabsE O))) k := fun k => by
      rw [hte, List.append_assoc, getE_app_all hps, getE_parts hh1, getE_cons_all hh1]
    have htr : tabRows (zipTb bs (partsE 14 hand) ++ N) O = rowsE hand N O := live_ext (Ris.all _) (Ris.all _) fun k => by rw [key]
    have hrow : rowsE [] (zipTb bs (partsE 14 hand) ++ N) O = rowsE hand N O := live_ext (Ris.all _) (Ris.all _) fun k => by
      rw [getE_cons_all Ris.nil, key]; rfl
    obtain ⟨hnm1, hnm2⟩ := man_names h.ok
    have hep := h.ep
    have hep1 := (manFault_ep h.ok).1
    have hpl : (partsE 14 hand).length ≤ 3 := by rw [partsE_len]; unfold partsN; omega
    have hold : ∀ x : Tb, ∀ M', Adv L M1 L2 M' → TabAt M x.b x.es → (x.b : Int) ∈ m.lg :: (m.nw ++ m.od) → TabAt M' x.b x.es := fun x M' hA ht hm => ⟨ht.ok, ht.lt, by rw [hA.pg _ (hL.adv.mono _ hm), hL.adv.pg _ hm]; exact ht.pg⟩
    refine ⟨⟨man_of (by show 1 ≤ m.ep + 1; omega) (by show m.ep + 1 ≤ 100000; omega) (fun x hx => ?_) ?_, ?_, h.od, fun x hx => ?_, fun x hx => ?_, ⟨b, rfl, LogAt.blank c6⟩, h.ris, h.live, ?_, h.few', by rw [hrow]; exact h.rows, by rw [htr]; exact h.rows⟩, hrow⟩
    · rcases List.mem_cons.1 (show x ∈ (b : Int) :: ((intsN bs ++ m.nw) ++ m.od) from hx) with rfl | hx
      · omega
      · rw [List.append_assoc] at hx
        rcases List.mem_append.1 hx with hx | hx
        · simp [intsN] at hx
          obtain ⟨c, hc, rfl⟩ := hx
          have := hL.at_ c hc
          omega
        · exact hnm1 _ (List.mem_cons_of_mem _ hx)
    · show ((b : Int) :: ((intsN bs ++ m.nw) ++ m.od)).Nodup
      rw [List.append_assoc, List.nodup_cons, List.nodup_append]
      refine ⟨fun hm => ?_, ints_nodup hL.nodup, (List.nodup_cons.1 hnm2).2, fun x hx y hy => ?_⟩
      · rcases List.mem_append.1 hm with hm | hm
        · simp [intsN] at hm
          obtain ⟨c, hc, e⟩ := hm
          obtain rfl : c = b := by omega
          exact c3 (hL.at_ c hc).2.2.2
        · exact c3 (hL.adv.mono _ (List.mem_cons_of_mem _ hm))
      · intro e
        subst e
        simp [intsN] at hx
        obtain ⟨c, hc, rfl⟩ := hx
        exact (hL.at_ c hc).2.2.1 (List.mem_cons_of_mem _ hy)
    · show intsN bs ++ m.nw = _
      rw [List.map_append, zipTb_b hL.len, ← h.nw]
    · rcases List.mem_append.1 hx with hx | hx
      · obtain ⟨i, h1, h2⟩ := zipTb_get hx
        have ht := hL.tab i x.b x.es h1 h2
        exact ⟨ht.ok, ht.lt, by rw [hC.adv.pg _ (hL.at_ x.b (List.mem_of_getElem? h1)).2.2.2]; exact ht.pg⟩
      · exact hold x M2 hC.adv (h.tn x hx) (by rw [h.nw]; simp; exact .inr (.inl ⟨x, hx, rfl⟩))
    · exact hold x M2 hC.adv (h.told x hx) (by rw [h.od]; simp; exact .inr (.inr ⟨x, hx, rfl⟩))
    · rw [List.length_append, zipTb_len hL.len]; omega
  · cases c
  · cases c
end Go.Proofs.YtkibgflbidkalaaGreatDoor
