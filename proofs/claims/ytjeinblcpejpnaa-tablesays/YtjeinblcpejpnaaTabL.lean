/- Tables: what Write leaves on a chip that nothing hinders. -/
import Derived.Test.YtjeinblcpejpnaaTabK
namespace Go.Proofs.Ytjeinblcpejpnaa
open Go.RowKit Go.WideShapes

/-- Nothing hinders a step in block b. -/
structure Fine (M : CM) (b : Nat) : Prop where
  pend : M.pend = none
  bd : M.bd b = false
  wk : M.wk b = false
  left : M.left = -1
theorem Fine.ready {M : CM} {b : Nat} (h : Fine M b) (hb : b < 24) : readyE M (b : Int) = 0 := by
  unfold readyE downB
  rw [h.pend, if_neg (by simp), if_pos ⟨by omega, by omega⟩]
  simp [h.bd]
theorem Fine.tick {M : CM} {b : Nat} (h : Fine M b) : tickM M = M := by
  unfold tickM; rw [if_neg (by rw [h.left]; decide)]
theorem Fine.write {M : CM} {b : Nat} (h : Fine M b) (hb : b < 24) (s : ByteArray) (hs : s.size ≤ 64) (hl : (M.pg b).length < 8) : writeE M (b : Int) s = 0 ∧ writeM M (b : Int) s = layM M b (.whole (padD s)) := by
  have h8 : ¬ (M.pg b).length = 8 := by omega
  have hl0 : ¬ M.left = 0 := by rw [h.left]; decide
  have hs' : ¬ 64 < s.size := by omega
  unfold writeE writeM
  simp only [h.ready hb, not_true_eq_false, if_false, hs', Int.toNat_natCast, h8, h.wk, hl0, h.tick]
  simp
theorem Fine.erase {M : CM} {b : Nat} (h : Fine M b) (hb : b < 24) : eraseE M (b : Int) = 0 ∧ eraseM M (b : Int) = wipeM M b [] := by
  have hl0 : ¬ M.left = 0 := by rw [h.left]; decide
  unfold eraseE eraseM
  simp only [h.ready hb, not_true_eq_false, if_false, Int.toNat_natCast, h.wk, hl0, h.tick]
  simp
theorem Fine.lay {M : CM} {b : Nat} (h : Fine M b) (c : Nat) (p : Pg) : Fine (layM M c p) b := ⟨h.pend, h.bd, h.wk, h.left⟩
theorem Fine.wipe {M : CM} {b : Nat} (h : Fine M b) (c : Nat) (l : List Pg) : Fine (wipeM M c l) b := ⟨h.pend, h.bd, h.wk, h.left⟩
theorem goW_fine {b : Nat} (hb : b < 24) : ∀ (ps : List (List Ent)) (M : CM), Fine M b → (M.pg b).length + ps.length ≤ 8 → (∀ p ∈ ps, bytesT p = (encT p, 0) ∧ (encT p).length ≤ 64) →
    (goW (b : Int) M ps).2 = 0 ∧ Fine (goW (b : Int) M ps).1 b ∧ (goW (b : Int) M ps).1.pg b = M.pg b ++ ps.map (fun p => Pg.whole (padD (txt (encT p)))) ∧ (∀ c, c ≠ b → (goW (b : Int) M ps).1.pg c = M.pg c) ∧ (goW (b : Int) M ps).1.bd = M.bd ∧ (goW (b : Int) M ps).1.wk = M.wk ∧ (goW (b : Int) M ps).1.wr = M.wr
  | [], M, h, _, _ => ⟨rfl, h, by simp [goW], fun _ _ => rfl, rfl, rfl, rfl⟩
  | p :: ps, M, h, hl, hp => by
    obtain ⟨h1, h2⟩ := hp p (List.mem_cons_self ..)
    have hs : (txt (encT p)).size ≤ 64 := by
      show (encT p).toArray.size ≤ 64
      simpa using h2
    have hlen : (M.pg b).length < 8 := by simp at hl; omega
    obtain ⟨w1, w2⟩ := h.write hb (txt (encT p)) hs hlen
    have hg : goW (b : Int) M (p :: ps) = goW (b : Int) (layM M b (.whole (padD (txt (encT p))))) ps := by
      simp only [goW]
      rw [h1, if_neg (by simp), if_neg (by simp [w1]), w2]
    rw [hg]
    obtain ⟨g1, g2, g3, g4, g5, g6, g7⟩ := goW_fine hb ps (layM M b (.whole (padD (txt (encT p))))) (h.lay b _) (by simp [layM, upd_same] at *; omega) (fun q hq => hp q (List.mem_cons_of_mem _ hq))
    refine ⟨g1, g2, ?_, fun c hc => ?_, g5, g6, g7⟩
    · rw [g3]; simp [layM, upd_same]
    · rw [g4 c hc]; simp [layM, upd, hc]
theorem encT_le {p : List Ent} (h : ∀ e ∈ p, faultE e = 0) (hl : p.length ≤ 2) : (encT p).length ≤ 64 := by
  have := flat_le p h
  simp [encT] at *
  omega
/-- A table is written where nothing hinders it. -/
theorem writeT_fine {M : CM} {b : Nat} {es : List Ent} (h : Fine M b) (hb : b < 24) (hz : tabF es = 0) :
    (writeT M (b : Int) es).2 = 0 ∧ TabAt (writeT M (b : Int) es).1 b es ∧ Fine (writeT M (b : Int) es).1 b ∧ (∀ c, c ≠ b → (writeT M (b : Int) es).1.pg c = M.pg c) ∧ (writeT M (b : Int) es).1.bd = M.bd ∧ (writeT M (b : Int) es).1.wk = M.wk ∧ (writeT M (b : Int) es).1.wr = upd M.wr b (M.wr b + 1) := by
  obtain ⟨e1, e2⟩ := h.erase hb
  have h1 := h.wipe b []
  obtain ⟨w1, w2⟩ := h1.write hb (headT es) (by rw [headT_size]; decide) (by simp [wipeM, upd_same])
  have hW : writeT M (b : Int) es = goW (b : Int) (layM (wipeM M b []) b (.whole (padD (headT es)))) (partsE 2 es) := by
    unfold writeT
    rw [if_neg (by simp [hz]), if_neg (by simp [e1]), e2, if_neg (by simp [w1]), w2]
  rw [hW]
  have h14 := (tabF_zero hz).2.1
  have hps : ∀ p ∈ partsE 2 es, bytesT p = (encT p, 0) ∧ (encT p).length ≤ 64 := fun p hp => by
    obtain ⟨k, _, rfl⟩ := List.mem_map.1 hp
    have hf : ∀ e ∈ partE 2 es k, faultE e = 0 := fun e he => tabF_fault hz e (part_mem he)
    have hl : (partE 2 es k).length ≤ 2 := by rw [partE_len]; unfold partL; omega
    exact ⟨bytesT_part hf hl, encT_le hf hl⟩
  obtain ⟨g1, g2, g3, g4, g5, g6, g7⟩ := goW_fine hb (partsE 2 es) (layM (wipeM M b []) b (.whole (padD (headT es)))) (h1.lay b _) (by simp [layM, wipeM, upd_same, parts_len]; omega) hps
  refine ⟨g1, ⟨hz, hb, ?_⟩, g2, fun c hc => ?_, g5, g6, g7⟩
  · rw [g3]; simp [layM, wipeM, upd_same]
  · rw [g4 c hc]; simp [layM, wipeM, upd, hc]
theorem newM_fine (b : Nat) : Fine newM b := ⟨rfl, rfl, rfl, rfl⟩
end Go.Proofs.Ytjeinblcpejpnaa
