/- StoW StoX StoY StoZ StoO. -/
import Derived.Test.YtkibgflbidkalaaDoorStoPJ
import Derived.Test.YtkibgflbidkalaaDoorStoVJ

/- A store in plain words: a batch is written. -/
namespace Go.Proofs.YtkibgflbidkalaaDoor
open Go.RowKit

/-- Rows behind changes. -/
def afterE (rows l : List Ent) : List Ent := liveE (putsE rows l)
/-- What is wrong with changes. -/
def writeF (rows l : List Ent) : Int := if l.length = 0 ∨ 4 < l.length then 2 else if ¬ (bytesT l).2 = 0 then (bytesT l).2 else if 40 < (afterE rows l).length then 8 else 0
theorem getE_rows (hand : List Ent) (N O : List Tb) (k : ByteArray) : getE (rowsE hand N O) k = liveO (getE (allE (hand :: (tabsE N ++ tabsE O))) k) := getE_live (Ris.all _) k
/-- Changes on top of all that there is. -/
theorem rows_with {hand : List Ent} {N O : List Tb} (l : List Ent) : liveE (allE (putsE [] l :: hand :: (tabsE N ++ tabsE O))) = afterE (rowsE hand N O) l := by
  refine live_ext (Ris.all _) ((rowsE_ris hand N O).puts l) fun k => ?_
  rw [getE_cons_all (Ris.nil.puts l), getE_putsL l Ris.nil, getE_putsL l (rowsE_ris hand N O), getE_rows, getE_nil, Option.or_none, liveO_or]
theorem rows_put {hand : List Ent} (hh : Ris hand) {N O : List Tb} (l : List Ent) : rowsE (putsE hand l) N O = afterE (rowsE hand N O) l := by
  refine live_ext (Ris.all _) ((rowsE_ris hand N O).puts l) fun k => ?_
  rw [getE_cons_all (hh.puts l), getE_putsL l hh, getE_putsL l (rowsE_ris hand N O), getE_rows, getE_cons_all hh, Option.or_assoc, liveO_or]
theorem writeF_ok {rows l : List Ent} (h : writeF rows l = 0) : 0 < l.length ∧ l.length ≤ 4 ∧ bytesT l = (encT l, 0) ∧ (∀ e ∈ l, faultE e = 0) ∧ (encT l).length ≤ 64 ∧ (afterE rows l).length ≤ 40 := by
  unfold writeF at h
  by_cases h1 : l.length = 0 ∨ 4 < l.length
  · rw [if_pos h1] at h; cases h
  · rw [if_neg h1] at h
    by_cases h2 : (bytesT l).2 = 0
    · rw [if_neg (by simp [h2])] at h
      by_cases h3 : 40 < (afterE rows l).length
      · rw [if_pos h3] at h; cases h
      · have hb := h2
        unfold bytesT at hb
        by_cases h4 : faultsE l = 0
        · rw [if_neg (by simp [h4])] at hb
          by_cases h5 : 64 < (encT l).length
          · rw [if_pos h5] at hb; cases hb
          · refine ⟨by omega, by omega, ?_, faultsE_zero h4, by omega, by omega⟩
            unfold bytesT; rw [if_neg (by simp [h4]), if_neg h5]
        · rw [if_pos h4] at hb; exact absurd hb h4
    · rw [if_pos h2] at h; exact absurd h h2
/-- A batch is in the log. -/
theorem Inv.put {n : Nat} {M M' : CM} {m : Man} {a : Nat} {hand l : List Ent} {N O : List Tb} {g : Nat} (h : Inv n M m a hand N O) (hg : m.lg = (g : Int)) (hl : (M.pg g).length < 8) (hpg : M'.pg g = M.pg g ++ [.whole (padD (txt (encT l)))]) (ho : ∀ b, ¬ b = g → M'.pg b = M.pg b) (hp : M'.pend = none) (hwk : M'.wk = M.wk) (hbd : M'.bd = M.bd) (hwr : M'.wr = M.wr)
    (h4 : l.length ≤ 4) (hf : ∀ e ∈ l, faultE e = 0) (h64 : (encT l).length ≤ 64) (hr : (afterE (rowsE hand N O) l).length ≤ 40) : Inv n M' m a (putsE hand l) N O := by
  obtain ⟨hnm1, hnm2⟩ := man_names h.ok
  have hg2 := hnm1 m.lg (by simp)
  obtain ⟨g', hg', hlog⟩ := h.lg
  obtain rfl : g' = g := by omega
  have hrow := rows_put (hand := hand) h.hand.1 (N := N) (O := O) l
  have hne : ∀ b : Nat, (b : Int) ∈ m.nw ++ m.od → ¬ b = g' := fun b hb e => by
    subst e
    exact (List.nodup_cons.1 hnm2).1 (by rw [hg']; exact hb)
  refine ⟨h.nst.keep2 hp (fun b hb => ho b (by omega)) (fun b _ => by rw [hwk]) (fun b _ => by rw [hbd]), h.ok, h.ep, by rw [hwr]; exact h.wr, h.nw, h.od, fun x hx => ?_, fun x hx => ?_, ⟨g', hg', hlog.snoc hl hpg h4 hf h64⟩, h.ris, h.live, h.few, h.few', by rw [hrow]; exact hr, h.trows, by rw [hbd, hwk]; exact h.bw, by rw [hwk]; exact h.wk⟩
  · have ht := h.tn x hx
    exact ⟨ht.ok, ht.lt, by rw [ho x.b (hne x.b (by rw [h.nw]; simp; exact .inl ⟨x, hx, rfl⟩))]; exact ht.pg⟩
  · have ht := h.told x hx
    exact ⟨ht.ok, ht.lt, by rw [ho x.b (hne x.b (by rw [h.od]; simp; exact .inr ⟨x, hx, rfl⟩))]; exact ht.pg⟩
theorem Inv.torn {n : Nat} {M M' : CM} {m : Man} {a : Nat} {hand : List Ent} {N O : List Tb} {g : Nat} (h : Inv n M m a hand N O) (hg : m.lg = (g : Int)) (hl : (M.pg g).length < 8) (hpg : M'.pg g = M.pg g ++ [.torn]) (ho : ∀ b, ¬ b = g → M'.pg b = M.pg b) (hp : M'.pend = none) (hwk : M'.wk = M.wk) (hbd : M'.bd = M.bd) (hwr : M'.wr = M.wr) : Inv n M' m a hand N O := by
  obtain ⟨hnm1, hnm2⟩ := man_names h.ok
  have hg2 := hnm1 m.lg (by simp)
  obtain ⟨g', hg', hlog⟩ := h.lg
  obtain rfl : g' = g := by omega
  have hne : ∀ b : Nat, (b : Int) ∈ m.nw ++ m.od → ¬ b = g' := fun b hb e => by
    subst e
    exact (List.nodup_cons.1 hnm2).1 (by rw [hg']; exact hb)
  refine ⟨h.nst.keep2 hp (fun b hb => ho b (by omega)) (fun b _ => by rw [hwk]) (fun b _ => by rw [hbd]), h.ok, h.ep, by rw [hwr]; exact h.wr, h.nw, h.od, fun x hx => ?_, fun x hx => ?_, ⟨g', hg', hlog.torn hl hpg⟩, h.ris, h.live, h.few, h.few', h.rows, h.trows, by rw [hbd, hwk]; exact h.bw, by rw [hwk]; exact h.wk⟩
  · have ht := h.tn x hx
    exact ⟨ht.ok, ht.lt, by rw [ho x.b (hne x.b (by rw [h.nw]; simp; exact .inl ⟨x, hx, rfl⟩))]; exact ht.pg⟩
  · have ht := h.told x hx
    exact ⟨ht.ok, ht.lt, by rw [ho x.b (hne x.b (by rw [h.od]; simp; exact .inr ⟨x, hx, rfl⟩))]; exact ht.pg⟩
/-- What a write to the log comes to. -/
inductive LogW (n : Nat) (M : CM) (m : Man) (a : Nat) (hand l : List Ent) (N O : List Tb) (g : Nat) : Prop
  | done (h0 : writeE M (g : Int) (txt (encT l)) = 0) (hi : Inv n (writeM M (g : Int) (txt (encT l))) m a (putsE hand l) N O) (hp : (writeM M (g : Int) (txt (encT l))).pend = none)
  | fell (h0 : writeE M (g : Int) (txt (encT l)) = 9) (hl : ¬ M.left < 0) (hf : FellOk n (writeM M (g : Int) (txt (encT l))) (fun r => r = rowsE hand N O ∨ r = afterE (rowsE hand N O) l))
  | full (h0 : writeE M (g : Int) (txt (encT l)) = 6 ∨ writeE M (g : Int) (txt (encT l)) = 7) (hi : Inv n (writeM M (g : Int) (txt (encT l))) m a hand N O) (hw : ¬ (M.wk g = false ∧ M.bd g = false ∧ (M.pg g).length < 8))
structure LogWk (M : CM) (g : Nat) (s : ByteArray) : Prop where
  wk : (writeM M (g : Int) s).wk = M.wk
  left : M.left < 0 → (writeM M (g : Int) s).left = M.left
  leq : ∀ k, M.left ≤ k → 0 ≤ k → (writeM M (g : Int) s).left ≤ k
theorem logWk (M : CM) (g : Nat) (s : ByteArray) : LogWk M g s := by
  refine ⟨?_, fun hl => ?_, fun k h1 h2 => ?_⟩
  · unfold writeM
    repeat' split
    all_goals first | rfl | exact tick_wk M
  · unfold writeM
    repeat' split
    all_goals first | rfl | exact tick_keep hl
  · unfold writeM
    repeat' split
    all_goals first | exact h1 | exact tick_leq M k h1 h2
theorem log_write {n : Nat} {M : CM} {m : Man} {a : Nat} {hand l : List Ent} {N O : List Tb} {g : Nat} (h : Inv n M m a hand N O) (hg : m.lg = (g : Int)) (hw : writeF (rowsE hand N O) l = 0) : LogW n M m a hand l N O g := by
  obtain ⟨h0, h4, hb, hf, h64, hr⟩ := writeF_ok hw
  obtain ⟨hnm1, _⟩ := man_names h.ok
  have hg2 := hnm1 m.lg (by simp)
  have hup := h.nst.up
  have hsz : (txt (encT l)).size ≤ 64 := by
    have : (txt (encT l)).size = (encT l).length := by simp [txt, ByteArray.size]
    omega
  have hgt : (g : Int).toNat = g := by omega
  have hdown : downB M = false := by unfold downB; rw [hup]; rfl
  have hl8 : (M.pg g).length ≤ 8 := by
    obtain ⟨g', hg', hlog⟩ := h.lg
    obtain rfl : g' = g := by omega
    obtain ⟨bs, e1, e2, _⟩ := hlog.ex
    rw [e1]; simpa using e2
  cases hbd : M.bd g with
  | true =>
    have hr7 : readyE M (g : Int) = 7 := by unfold readyE; rw [hdown]; simp only [Bool.false_eq_true, if_false]; rw [if_pos (by omega), hgt, hbd]; rfl
    have e1 : writeE M (g : Int) (txt (encT l)) = 7 := by unfold writeE; rw [if_pos (by rw [hr7]; simp), hr7]
    have e2 : writeM M (g : Int) (txt (encT l)) = M := by unfold writeM; rw [if_pos (by rw [hr7]; simp)]
    exact .full (.inr e1) (by rw [e2]; exact h) (fun hh => by rw [hbd] at hh; cases hh.2.1)
  | false =>
    have hr0 := ready_nst hup (show g < 24 by omega) hbd
    by_cases h8 : (M.pg g).length = 8
    · have e1 : writeE M (g : Int) (txt (encT l)) = 6 := by unfold writeE; rw [if_neg (by simp [hr0]), if_neg (by omega), hgt, if_pos h8]
      have e2 : writeM M (g : Int) (txt (encT l)) = M := by unfold writeM; rw [if_neg (by simp [hr0]), if_neg (by omega), hgt, if_pos h8]
      exact .full (.inl e1) (by rw [e2]; exact h) (fun hh => by omega)
    · cases hwk : M.wk g with
      | true =>
        have e1 : writeE M (g : Int) (txt (encT l)) = 7 := by unfold writeE; rw [if_neg (by simp [hr0]), if_neg (by omega), hgt, if_neg h8, if_pos hwk]
        have e2 : writeM M (g : Int) (txt (encT l)) = { M with bd := upd M.bd g true } := by unfold writeM; rw [if_neg (by simp [hr0]), if_neg (by omega), hgt, if_neg h8, if_pos hwk]
        refine .full (.inr e1) ?_ (fun hh => by rw [hwk] at hh; cases hh.1)
        rw [e2]
        refine h.keep (fun _ _ => rfl) (fun _ _ => rfl) hup rfl (fun b hb => ?_) h.wr (Nat.le_refl _)
        by_cases e : b = g
        · subst e; exact hwk
        · have : upd M.bd g true b = true := hb
          rw [upd_other _ _ _ e] at this
          exact h.bw b this
      | false =>
        obtain ⟨e1, e2⟩ := write_nst (s := txt (encT l)) hup (show g < 24 by omega) hbd hwk hsz (by omega)
        by_cases hl : M.left = 0
        · rw [if_pos hl] at e1 e2
          refine .fell e1 (by omega) (fun how => ?_)
          rw [e2]
          have hpn : ({ M with pend := some (.write g (padD (txt (encT l)))) } : CM).pend = some (.write g (padD (txt (encT l)))) := rfl
          have hres := restart_some how hpn
          obtain ⟨r1, r2, r3, r4⟩ := restart_far hpn how
          have hlow := restart_left ({ M with pend := some (.write g (padD (txt (encT l)))) } : CM) how
          have hro : ∀ b, ¬ b = g → (restartM { M with pend := some (.write g (padD (txt (encT l)))) } how).pg b = M.pg b := fun b hb => r1 b hb
          by_cases w2 : how = 2
          · have hpg : (restartM { M with pend := some (.write g (padD (txt (encT l)))) } how).pg g = M.pg g ++ [.whole (padD (txt (encT l)))] ∧ (restartM { M with pend := some (.write g (padD (txt (encT l)))) } how).wr = M.wr := by
              rw [hres]; unfold stepped; rw [if_pos w2]
              exact ⟨upd_same _ _ _, rfl⟩
            refine ⟨m, a, putsE hand l, N, O, h.put hg (by omega) hpg.1 hro r4 r2 r3 hpg.2 h4 hf h64 hr, .inr (rows_put h.hand.1 l), hlow, r2⟩
          · by_cases w1 : how = 1
            · have hpg : (restartM { M with pend := some (.write g (padD (txt (encT l)))) } how).pg g = M.pg g ++ [.torn] ∧ (restartM { M with pend := some (.write g (padD (txt (encT l)))) } how).wr = M.wr := by
                rw [hres]; unfold stepped; rw [if_neg w2, if_pos w1]
                exact ⟨upd_same _ _ _, rfl⟩
              exact ⟨m, a, hand, N, O, h.torn hg (by omega) hpg.1 hro r4 r2 r3 hpg.2, .inl rfl, hlow, r2⟩
            · have hpg : (restartM { M with pend := some (.write g (padD (txt (encT l)))) } how).pg = M.pg ∧ (restartM { M with pend := some (.write g (padD (txt (encT l)))) } how).wr = M.wr := by
                rw [hres]; unfold stepped; rw [if_neg w2, if_neg w1]
                exact ⟨rfl, rfl⟩
              exact ⟨m, a, hand, N, O, h.keep (fun b _ => by rw [hpg.1]) (fun b _ => by rw [hpg.1]) r4 r2 (by rw [r3, r2]; exact h.bw) (by rw [hpg.2]; exact h.wr) (Nat.le_refl _), .inl rfl, hlow, r2⟩
        · rw [if_neg hl] at e1 e2
          have hpn : (writeM M (g : Int) (txt (encT l))).pend = none := by rw [e2]; show (tickM M).pend = none; rw [tick_pend]; exact hup
          refine .done e1 (h.put hg (by omega) ?_ (fun b hb => ?_) hpn ?_ ?_ ?_ h4 hf h64 hr) hpn
          · rw [e2]; show upd (tickM M).pg g _ g = _; rw [upd_same, tick_pg]
          · rw [e2]; show upd (tickM M).pg g _ b = _; rw [upd_other _ _ _ hb, tick_pg]
          · rw [e2]; exact tick_wk M
          · rw [e2]; exact tick_bd M
          · rw [e2]; exact tick_wr M
end Go.Proofs.YtkibgflbidkalaaDoor

/- A store in memory: Check. -/
namespace Go.Proofs.YtkibgflbidkalaaDoor
open Go.RowKit Go.WideShapes

set_option maxRecDepth 20000 in
set_option maxHeartbeats 4000000 in
theorem scheck_any (n : Nat) (w : World) (S : List Nat) (sb cb : Nat) (M : CM) (m : Man) (a : Nat) (x : SMem) (N O : List Tb) (ao : Option Addr) (cap : Nat) (l : List Ent) (h : StoAt w S sb cb M m a x) (hI : Inv n M m a (x.ns.map Nd.e) N O) (hes : EntsAt w ao l) (hlt : ∀ p, ao = some p → p.block < w.heap.size) :
    Calls Tryd.prog 22 #[.pointer (some ⟨sb, 0, none⟩), .slice ao l.length cap] w fun e w' => e = .returned (errV (writeF (rowsE (x.ns.map Nd.e) N O) l)) ∧ Ext w w' := by
  by_cases h0 : l.length = 0
  · have HF : Hid (writeF (rowsE (x.ns.map Nd.e) N O) l = 2) := by rw [Hid]; unfold writeF; rw [if_pos (.inl h0)]
    rw [HF.out]
    have h0' : ((l.length : Int) == 0) = true := by simp; exact List.eq_nil_of_length_eq_zero h0
    clear h hI hes hlt HF h0
    generalize l.length = ll at *
    go_enter Tryd.func22, Tryd.ntmps22
    go_wp2
    go_ret
    exact ⟨rfl, Ext.refl _⟩
  · by_cases h4 : 4 < l.length
    · have HF : Hid (writeF (rowsE (x.ns.map Nd.e) N O) l = 2) := by rw [Hid]; unfold writeF; rw [if_pos (.inr h4)]
      rw [HF.out]
      have h0' : ((l.length : Int) == 0) = false := by rw [beq_eq_false_iff_ne]; omega
      have h4' : (4 : Int) < (l.length : Int) := by omega
      clear h hI hes hlt HF h0 h4
      generalize l.length = ll at *
      go_enter Tryd.func22, Tryd.ntmps22
      go_wp2
      go_ret
      exact ⟨rfl, Ext.refl _⟩
    · have h0' : ((l.length : Int) == 0) = false := by rw [beq_eq_false_iff_ne]; omega
      have h4' : ¬ (4 : Int) < (l.length : Int) := by omega
      have CB := bytes_any ao cap l w (by omega) hes
      by_cases hb : (bytesT l).2 = 0
      · have CB2 : Hid (Calls Tryd.prog 23 #[.slice ao l.length cap] w fun e w' => e = .returned (.tuple #[.string (txt (bytesT l).1), .nilIface]) ∧ Ext w w') := by
          rw [hb] at CB; exact CB
        have CN : Hid (∀ W, Calls Tryd.prog 42 #[] W fun e w' => e = .returned (.pointer (some ⟨W.heap.size, 0, none⟩)) ∧ Tow w' W.heap.size [] ∧ Ext W w') := fun W => (tnew_any W).mono fun e w' ⟨h1, h2⟩ => by subst h2; exact ⟨h1, tow_new W, (Ext.refl W).alloc _⟩
        have CP : Hid (∀ W lb, Ext w W → w.heap.size ≤ lb → Tow W lb [] → Calls Tryd.prog 25 #[.pointer (some ⟨lb, 0, none⟩), .slice ao l.length cap] W fun e w' => e = .returned (.tuple #[]) ∧ ∃ ms, Tow w' lb ms ∧ ms.map Nd.e = putsE [] l ∧ ms.length ≤ 4 ∧ Ext w w') := fun W lb hx hlb hT => by
          refine (putAll_any lb [] ao cap l W hT (by simp; omega) (h.glob.ext hx) (by have := h.glob.lt; simp; omega) (hes.ext hx) (fun p e => by have := hlt p e; simp; omega)).mono ?_
          rintro e w' ⟨rfl, ms, h1, h2, h3, h4, _⟩
          exact ⟨rfl, ms, h1, by simpa using h2, by simp at h3; omega, h4.ext hx (fun y hy => by simp at hy; omega)⟩
        have CA : Hid (∀ W lb ms, Tow W lb ms → ms.length ≤ 4 → Calls Tryd.prog 45 #[.pointer (some ⟨lb, 0, none⟩)] W fun e w' => ∃ v, e = .returned v ∧ Lst W w' v (ms.map Nd.e)) := fun W lb ms h1 h2 => tall_any lb ms W h1 (by omega)
        have hfew := hI.few
        have hfew' := hI.few'
        have hhl : x.ns.length ≤ 40 := by have := hI.hand.2.2; simp at this; omega
        have CR : Hid (∀ W co cc, Ext w W → (putsE [] l).length ≤ cc → (putsE [] l).length ≤ 4 → EntsAt W co (putsE [] l) → (∀ a, co = some a → ∃ cs, Blk W a.block cs 96) → Calls Tryd.prog 44 #[.pointer (some ⟨sb, 0, none⟩), .slice co (putsE [] l).length cc] W fun e w' => ∃ v, e = .returned (.tuple #[v, .nilIface]) ∧ RetE W w' v (afterE (rowsE (x.ns.map Nd.e) N O) l)) := fun W co cc hx h1 h2 h3 h5 => by
          have := rowsWith_any W S sb cb M m a x N O co cc (putsE [] l) (h.ext hx) hI.nst.up hI.nw hI.od hI.tn hI.told (by omega) hhl h1 (by omega) (Ris.nil.puts l) h3 h5
          rw [rows_with l] at this
          exact this
        have HF : Hid (writeF (rowsE (x.ns.map Nd.e) N O) l = if 40 < (afterE (rowsE (x.ns.map Nd.e) N O) l).length then 8 else 0) := by
          rw [Hid]; unfold writeF; rw [if_neg (by omega), if_neg (by simp [hb])]
        have HPL : Hid ((putsE [] l).length ≤ 4) := by have := puts_len [] l; rw [Hid]; simp at this; omega
        rw [HF.out]
        clear h hI hes hlt HF CB hb h0 h4 hfew hfew' hhl
        generalize afterE (rowsE (x.ns.map Nd.e) N O) l = af at *
        generalize hpl : putsE [] l = pl at *
        clear hpl
        generalize txt (bytesT l).1 = tx at *
        by_cases h40 : 40 < af.length
        · rw [if_pos h40]
          have h40' : (40 : Int) < (af.length : Int) := by omega
          clear h40
          go_enter Tryd.func22, Tryd.ntmps22
          go_wp2_with (first
            | (go_at_call 23; refine CB2.out.mono ?_; rintro e w1 ⟨rfl, hx1⟩)
            | (go_at_call 42; refine (CN.out _).mono ?_; rintro e w2 ⟨rfl, ht2, hx2⟩)
            | (go_at_call 25; refine (CP.out _ _ (hx1.trans hx2) hx1.size ht2).mono ?_; rintro e w3 ⟨rfl, ms, ht3, hm3, hl3, hx3⟩; have HM3 : Hid (ms.map Nd.e = pl) := hm3; clear hm3)
            | (go_at_call 45; refine (CA.out _ _ ms ht3 hl3).mono ?_; rintro e w4 ⟨v4, rfl, hL4⟩; rw [HM3.out] at hL4; have hR4 := hL4.retE (Ext.refl w3); obtain ⟨ao4, c4, hv4, hc4, he4, hb4, hx4⟩ := hR4; subst hv4; clear hL4)
            | (go_at_call 44; refine (CR.out _ ao4 c4 (hx3.trans hx4) hc4 HPL.out he4 (fun a e => (hb4 a e).2)).mono ?_; rintro e w5 ⟨v5, rfl, hR5⟩; obtain ⟨ao5, c5, hv5, _, _, _, hx5⟩ := hR5; subst hv5))
          go_ret
          exact ⟨rfl, (hx3.trans hx4).trans hx5⟩
        · rw [if_neg h40]
          have h40' : ¬ (40 : Int) < (af.length : Int) := by omega
          clear h40
          go_enter Tryd.func22, Tryd.ntmps22
          go_wp2_with (first
            | (go_at_call 23; refine CB2.out.mono ?_; rintro e w1 ⟨rfl, hx1⟩)
            | (go_at_call 42; refine (CN.out _).mono ?_; rintro e w2 ⟨rfl, ht2, hx2⟩)
            | (go_at_call 25; refine (CP.out _ _ (hx1.trans hx2) hx1.size ht2).mono ?_; rintro e w3 ⟨rfl, ms, ht3, hm3, hl3, hx3⟩; have HM3 : Hid (ms.map Nd.e = pl) := hm3; clear hm3)
            | (go_at_call 45; refine (CA.out _ _ ms ht3 hl3).mono ?_; rintro e w4 ⟨v4, rfl, hL4⟩; rw [HM3.out] at hL4; have hR4 := hL4.retE (Ext.refl w3); obtain ⟨ao4, c4, hv4, hc4, he4, hb4, hx4⟩ := hR4; subst hv4; clear hL4)
            | (go_at_call 44; refine (CR.out _ ao4 c4 (hx3.trans hx4) hc4 HPL.out he4 (fun a e => (hb4 a e).2)).mono ?_; rintro e w5 ⟨v5, rfl, hR5⟩; obtain ⟨ao5, c5, hv5, _, _, _, hx5⟩ := hR5; subst hv5))
          go_ret
          exact ⟨rfl, (hx3.trans hx4).trans hx5⟩
      · have HF : Hid (writeF (rowsE (x.ns.map Nd.e) N O) l = (bytesT l).2) := by rw [Hid]; unfold writeF; rw [if_neg (by omega), if_pos hb]
        have HE : Hid (errV (bytesT l).2 = .iface 62 (.int .i64 (bytesT l).2)) := by unfold errV Hid; rw [if_neg hb]
        have CB2 : Hid (Calls Tryd.prog 23 #[.slice ao l.length cap] w fun e w' => e = .returned (.tuple #[.string (txt (bytesT l).1), .iface 62 (.int .i64 (bytesT l).2)]) ∧ Ext w w') := by
          rw [HE.out] at CB; exact CB
        rw [HF.out, HE.out]
        clear h hI hes hlt HF HE CB hb h0 h4
        generalize txt (bytesT l).1 = tx at *
        generalize (bytesT l).2 = f at *
        generalize l.length = ll at *
        go_enter Tryd.func22, Tryd.ntmps22
        go_wp2_with (go_at_call 23; refine CB2.out.mono ?_; rintro e w1 ⟨rfl, hx1⟩)
        go_ret
        exact ⟨rfl, hx1⟩
end Go.Proofs.YtkibgflbidkalaaDoor

/- A store in memory: a batch is written to the log, and is at hand. -/
namespace Go.Proofs.YtkibgflbidkalaaDoor
open Go.RowKit Go.WideShapes

def withN (x : SMem) (ms : List Nd) : SMem := ⟨x.a1, x.c1, x.a2, x.c2, x.hb, ms⟩
theorem StoAt.putHand {w w' : World} {S : List Nat} {sb cb : Nat} {M : CM} {m : Man} {a : Nat} {x : SMem} {es : List Ent} (h : StoAt w S sb cb M m a x) (hp : M.pend = none) (hP : HandP w w' x.hb x.ns es) :
    ∃ ms, StoAt w' (S ++ ms.map Nd.b) sb cb M m a (withN x ms) ∧ ms.map Nd.e = putsE (x.ns.map Nd.e) es ∧ Kp w w' S ∧ ∀ b ∈ S ++ ms.map Nd.b, b ∈ S ∨ w.heap.size ≤ b := by
  obtain ⟨ms, hT, hm, _, hK, hn⟩ := hP.ex
  have hc := h.lt _ h.cS.1
  have hs := h.lt _ h.cS.2
  have hg := h.glob.lt
  have hcn : cb ∉ x.hb :: x.ns.map Nd.b := fun hh => (h.ts cb hh).1 rfl
  have hsn : sb ∉ x.hb :: x.ns.map Nd.b := fun hh => (h.ts sb hh).2 rfl
  have hgn : 1 ∉ x.hb :: x.ns.map Nd.b := fun hh => h.gS (h.tS _ hh)
  have hms : ∀ b ∈ x.hb :: ms.map Nd.b, b ∈ x.hb :: x.ns.map Nd.b ∨ w.heap.size ≤ b := fun b hb => by
    rcases List.mem_cons.1 hb with rfl | hb
    · exact .inl (by simp)
    · obtain ⟨n', hn', rfl⟩ := List.mem_map.1 hb
      rcases hn n' hn' with h' | h'
      · exact .inl (List.mem_cons_of_mem _ h')
      · exact .inr h'
  refine ⟨ms, ⟨?_, h.glob.kp hK hgn, hK.Blk h.blk hsn, h.nw.kp hK (fun p e => (h.d1 p e).2.2), h.od.kp hK (fun p e => (h.d2 p e).2.2), hT, h.sc, fun b hb => ?_, fun p e => ?_, fun p e => ?_, ⟨by simp [h.cS.1], by simp [h.cS.2]⟩, fun b hb => ?_, fun p e => ?_, fun hm => ?_, fun b hb => ?_⟩, hm, hK.mono (fun b hb => h.tS b hb), fun b hb => ?_⟩
  · obtain ⟨⟨cs, fv, h1, h2, h3⟩, h4⟩ := h.chip
    refine ⟨⟨cs, fv, hK.Blk h1 hcn, h2, ?_⟩, h4⟩
    rw [hp] at h3 ⊢
    exact h3
  · rcases hms b hb with h' | h'
    · exact h.ts b h'
    · omega
  · refine ⟨(h.d1 p e).1, (h.d1 p e).2.1, fun hh => ?_⟩
    rcases hms _ hh with h' | h'
    · exact (h.d1 p e).2.2 h'
    · have := h.lt _ (h.aS p (.inl e)); omega
  · refine ⟨(h.d2 p e).1, (h.d2 p e).2.1, fun hh => ?_⟩
    rcases hms _ hh with h' | h'
    · exact (h.d2 p e).2.2 h'
    · have := h.lt _ (h.aS p (.inr e)); omega
  · rcases List.mem_cons.1 hb with rfl | hb
    · exact List.mem_append_left _ (h.tS x.hb (by simp))
    · exact List.mem_append_right _ hb
  · exact List.mem_append_left _ (h.aS p e)
  · rcases List.mem_append.1 hm with hm | hm
    · exact h.gS hm
    · rcases hms _ (List.mem_cons_of_mem _ hm) with h' | h'
      · exact hgn h'
      · omega
  · rcases List.mem_append.1 hb with hb | hb
    · exact Nat.lt_of_lt_of_le (h.lt b hb) hK.size
    · exact hT.lt b (List.mem_cons_of_mem _ hb)
  · rcases List.mem_append.1 hb with hb | hb
    · exact .inl hb
    · rcases hms b (List.mem_cons_of_mem _ hb) with h' | h'
      · exact .inl (h.tS b h')
      · exact .inr h'
/-- A list that came in lies apart from a store. -/
structure Aside2 (w : World) (S : List Nat) (ao : Option Addr) (l : List Ent) : Prop where
  at_ : EntsAt w ao l
  lt : ∀ p, ao = some p → p.block < w.heap.size
  no : ∀ p, ao = some p → p.block ∉ S
theorem Aside2.kp {w w' : World} {S S' : List Nat} {ao : Option Addr} {l : List Ent} (h : Aside2 w S ao l) (hK : Kp w w' S) (hS : ∀ b ∈ S', b ∈ S ∨ w.heap.size ≤ b) : Aside2 w' S' ao l :=
  ⟨h.at_.kp hK h.no, fun p e => Nat.lt_of_lt_of_le (h.lt p e) hK.size, fun p e hm => by
    rcases hS _ hm with h' | h'
    · exact h.no p e h'
    · have := h.lt p e; omega⟩
/-- What a batch that was written leaves. -/
def PutQ (m : Man) (hand l : List Ent) (N : List Tb) (_ : CM) (m' : Man) (hand' : List Ent) (N' : List Tb) : Prop := N' = N ∧ hand' = putsE hand l ∧ m' = m
/-- A write to the log that goes well, or falls; and what is done behind it. -/
theorem log_then (n : Nat) (w : World) (S : List Nat) (sb cb : Nat) (M : CM) (m : Man) (a : Nat) (x : SMem) (N O : List Tb) (ao : Option Addr) (cap : Nat) (l : List Ent) (g : Nat) (h : StoAt w S sb cb M m a x) (hI : Inv n M m a (x.ns.map Nd.e) N O) (hub : M.left ≤ 9223372036854775807) (hg : m.lg = (g : Int)) (hw : writeF (rowsE (x.ns.map Nd.e) N O) l = 0) (hl : Aside2 w S ao l)
    (hnf : ¬ (writeE M (g : Int) (txt (encT l)) = 6 ∨ writeE M (g : Int) (txt (encT l)) = 7)) (W : World) (hx : Ext w W) :
    Calls Tryd.prog 24 #[.pointer (some ⟨cb, 0, none⟩), .int .i64 (g : Int), .string (txt (encT l))] W fun e w5 =>
      (writeE M (g : Int) (txt (encT l)) = 0 ∧ e = .returned .nilIface ∧ Kp w w5 [cb] ∧ Hid (Calls Tryd.prog 25 #[.pointer (some ⟨x.hb, 0, none⟩), .slice ao l.length cap] w5 fun e w6 => e = .returned (.tuple #[]) ∧ OpEnd n w w6 S sb cb M (· = afterE (rowsE (x.ns.map Nd.e) N O) l) (fun r => r = rowsE (x.ns.map Nd.e) N O ∨ r = afterE (rowsE (x.ns.map Nd.e) N O) l) (PutQ m (x.ns.map Nd.e) l N) (.returned .nilIface))) ∨
      (writeE M (g : Int) (txt (encT l)) = 9 ∧ e = .returned (.iface 62 (.int .i64 9)) ∧ Kp w w5 [cb] ∧ Hid (OpEnd n w w5 S sb cb M (· = afterE (rowsE (x.ns.map Nd.e) N O) l) (fun r => r = rowsE (x.ns.map Nd.e) N O ∨ r = afterE (rowsE (x.ns.map Nd.e) N O) l) (PutQ m (x.ns.map Nd.e) l N) (.returned (.iface 62 (.int .i64 9))))) := by
  have hk := logWk M g (txt (encT l))
  have hcS : ∀ y ∈ [cb], y ∈ S := by simp [h.cS.1]
  obtain ⟨_, hl4, _, _, h64, _⟩ := writeF_ok hw
  refine (write_any cb (g : Int) (txt (encT l)) M W (h.chip.ext hx) hub (by
    have : (txt (encT l)).size = (encT l).length := by simp [txt, ByteArray.size]
    omega)).mono ?_
  rintro e w5 ⟨he, hc, hgr⟩
  have hK : Kp w w5 [cb] := (Kp.ofExt hx _).trans (Kp.grown hgr)
  cases log_write hI hg hw with
  | full h0 => exact absurd h0 hnf
  | fell h0 hl0 hf =>
    rw [h0] at he
    exact .inr ⟨h0, he, hK, .fell _ rfl hl0 hc hk.wk hf (hK.mono hcS)⟩
  | done h0 hi hp =>
    rw [h0] at he
    refine .inl ⟨h0, he, hK, ?_⟩
    have hs := h.chg hK hc
    have hl5 := hl.kp (hK.mono hcS) (fun b hb => .inl hb)
    have hns : x.ns.length ≤ 32 := by have := hI.hand.2.2; simpa using this
    refine (putAll_any x.hb x.ns ao cap l w5 hs.tow (by omega) hs.glob (fun hh => hs.gS (hs.tS _ hh)) hl5.at_ (fun p e hh => hl5.no p e (hs.tS _ hh))).mono ?_
    rintro e w6 ⟨rfl, hP⟩
    obtain ⟨ms, q1, q2, q3, q4⟩ := hs.putHand hp hP
    refine ⟨rfl, .ok _ m a (withN x ms) _ N O rfl q1 ?_ ?_ hk.left hk.leq hk.wk ((hK.mono hcS).trans q3) (fun b hb => ?_) ⟨rfl, q2, rfl⟩⟩
    · show Inv n _ m a (ms.map Nd.e) N O
      rw [q2]; exact hi
    · show rowsE (ms.map Nd.e) N O = _
      rw [q2, rows_put hI.hand.1]
    · rcases q4 b hb with h' | h'
      · exact .inl h'
      · exact .inr (Nat.le_trans hK.size h')
/-- What Write says besides. -/
def WriteQ (N : List Tb) (_ : CM) (_ : Man) (_ : List Ent) (N' : List Tb) : Prop := N.length ≤ 2 → N'.length ≤ 2
set_option maxRecDepth 20000 in
set_option maxHeartbeats 4000000 in
theorem swrite_any (n : Nat) (w : World) (S : List Nat) (sb cb : Nat) (M : CM) (m : Man) (a : Nat) (x : SMem) (N O : List Tb) (ao : Option Addr) (cap : Nat) (l : List Ent) (h : StoAt w S sb cb M m a x) (hI : Inv n M m a (x.ns.map Nd.e) N O) (hub : M.left ≤ 9223372036854775807) (hn : n ≤ 80000) (hl : Aside2 w S ao l) (hw : writeF (rowsE (x.ns.map Nd.e) N O) l = 0) :
    Calls Tryd.prog 9 #[.pointer (some ⟨sb, 0, none⟩), .slice ao l.length cap] w fun e w' => OpEnd (n + 9) w w' S sb cb M (· = afterE (rowsE (x.ns.map Nd.e) N O) l) (fun r => r = rowsE (x.ns.map Nd.e) N O ∨ r = afterE (rowsE (x.ns.map Nd.e) N O) l) (WriteQ N) e := by
  obtain ⟨hl0, hl4, hbt, _, h64, _⟩ := writeF_ok hw
  have CK : Hid (Calls Tryd.prog 22 #[.pointer (some ⟨sb, 0, none⟩), .slice ao l.length cap] w fun e w' => e = .returned .nilIface ∧ Ext w w') := by
    have := scheck_any n w S sb cb M m a x N O ao cap l h hI hl.at_ hl.lt
    rw [hw] at this; exact this
  have CB : Hid (∀ W, Ext w W → Calls Tryd.prog 23 #[.slice ao l.length cap] W fun e w' => e = .returned (.tuple #[.string (txt (encT l)), .nilIface]) ∧ Ext W w') := fun W hx => by
    have := bytes_any ao cap l W (by omega) (hl.at_.ext hx)
    rw [hbt] at this; exact this
  obtain ⟨g, hg, _⟩ := hI.lg
  have k0 := h.blk.cell 0
  have k2 := h.blk.cell 2
  have k6 := h.blk.cell 6
  simp [storeC] at k0 k2 k6
  rw [hg] at k2
  have hsc := h.sc
  have HCK : Hid (∀ W, Kp w W [cb] → W.cell? ⟨sb, 0, none⟩ = some (.pointer (some ⟨cb, 0, none⟩)) ∧ W.cell? ⟨sb, 2, none⟩ = some (.int .i64 (g : Int)) ∧ W.cell? ⟨sb, 6, none⟩ = some (.pointer (some ⟨x.hb, 0, none⟩))) := fun W hK => ⟨hK.cell (by simp [hsc]) k0, hK.cell (by simp [hsc]) k2, hK.cell (by simp [hsc]) k6⟩
  have HCE : Hid (∀ W, Ext w W → W.cell? ⟨sb, 0, none⟩ = some (.pointer (some ⟨cb, 0, none⟩)) ∧ W.cell? ⟨sb, 2, none⟩ = some (.int .i64 (g : Int))) := fun W hx => ⟨hx.cell k0, hx.cell k2⟩
  have q1 := eqErr
  have q2 := eqNil
  have hE := log_write hI hg hw
  cases hE with
  | done hE =>
    have CW : Hid (∀ W, Ext w W → Calls Tryd.prog 24 #[.pointer (some ⟨cb, 0, none⟩), .int .i64 (g : Int), .string (txt (encT l))] W fun e w5 => e = .returned .nilIface ∧ Kp w w5 [cb] ∧ Hid (Calls Tryd.prog 25 #[.pointer (some ⟨x.hb, 0, none⟩), .slice ao l.length cap] w5 fun e w6 => e = .returned (.tuple #[]) ∧ OpEnd n w w6 S sb cb M (· = afterE (rowsE (x.ns.map Nd.e) N O) l) (fun r => r = rowsE (x.ns.map Nd.e) N O ∨ r = afterE (rowsE (x.ns.map Nd.e) N O) l) (PutQ m (x.ns.map Nd.e) l N) (.returned .nilIface))) := fun W hx => by
      refine (log_then n w S sb cb M m a x N O ao cap l g h hI hub hg hw hl (by rw [hE]; simp) W hx).mono ?_
      rintro e w5 (⟨_, h2⟩ | ⟨h1, _⟩)
      · exact h2
      · rw [hE] at h1; cases h1
    clear h hI hub hl hw hg hbt hl0 hl4 h64 k0 k2 k6 hsc hE
    generalize rowsE (x.ns.map Nd.e) N O = r0 at *
    generalize afterE r0 l = r1 at *
    generalize txt (encT l) = tx at *
    go_enter Tryd.func9, Tryd.ntmps9
    go_wp2_with (first
      | (go_at_call 22; refine CK.out.mono ?_; rintro e w1 ⟨rfl, hx1⟩)
      | (go_at_call 23; refine (CB.out _ hx1).mono ?_; rintro e w2 ⟨rfl, hx2⟩))
    have hx12 := hx1.trans hx2
    obtain ⟨s0, s2⟩ := HCE.out _ hx12
    go_region_held3 (fun W => W.cell? ⟨sb, 0, none⟩ = some (.pointer (some ⟨cb, 0, none⟩)) ∧ W.cell? ⟨sb, 2, none⟩ = some (.int .i64 (g : Int)))
      (first | (go_keep; done) | exact ⟨(HCK.out _ hk5).1, (HCK.out _ hk5).2.1⟩)
      (first
        | (go_at_call 24; refine (CW.out _ (by repeat (first | exact hx12 | refine Ext.drew ?_ | refine Ext.drewN ?_ _))).mono ?_; rintro e w5 ⟨rfl, hk5, HP⟩))
    obtain ⟨u0, u2, u6⟩ := HCK.out _ hk5
    go_wp2_with (go_at_call 25; refine HP.out.mono ?_; rintro e w6 ⟨rfl, HO⟩; have HO2 : Hid (OpEnd n w w6 S sb cb M (· = r1) (fun r => r = r0 ∨ r = r1) (PutQ m (x.ns.map Nd.e) l N) (.returned .nilIface)) := HO; clear HO)
    go_ret
    exact (HO2.out.le (by omega)).after (fun _ => rfl) (fun _ h _ => h) rfl (Kp.refl _ _) (fun _ h => .inl h) (fun _ h => h) (fun _ h => h) (fun _ _ _ _ hq hN => by rw [hq.1]; exact hN)
  | fell hE =>
    have CW : Hid (∀ W, Ext w W → Calls Tryd.prog 24 #[.pointer (some ⟨cb, 0, none⟩), .int .i64 (g : Int), .string (txt (encT l))] W fun e w5 => e = .returned (.iface 62 (.int .i64 9)) ∧ Kp w w5 [cb] ∧ Hid (OpEnd n w w5 S sb cb M (· = afterE (rowsE (x.ns.map Nd.e) N O) l) (fun r => r = rowsE (x.ns.map Nd.e) N O ∨ r = afterE (rowsE (x.ns.map Nd.e) N O) l) (PutQ m (x.ns.map Nd.e) l N) (.returned (.iface 62 (.int .i64 9))))) := fun W hx => by
      refine (log_then n w S sb cb M m a x N O ao cap l g h hI hub hg hw hl (by rw [hE]; simp) W hx).mono ?_
      rintro e w5 (⟨h1, _⟩ | ⟨_, h2⟩)
      · rw [hE] at h1; cases h1
      · exact h2
    clear h hI hub hl hw hg hbt hl0 hl4 h64 k0 k2 k6 hsc hE
    generalize rowsE (x.ns.map Nd.e) N O = r0 at *
    generalize afterE r0 l = r1 at *
    generalize txt (encT l) = tx at *
    go_enter Tryd.func9, Tryd.ntmps9
    go_wp2_with (first
      | (go_at_call 22; refine CK.out.mono ?_; rintro e w1 ⟨rfl, hx1⟩)
      | (go_at_call 23; refine (CB.out _ hx1).mono ?_; rintro e w2 ⟨rfl, hx2⟩))
    have hx12 := hx1.trans hx2
    obtain ⟨s0, s2⟩ := HCE.out _ hx12
    go_region_held3 (fun W => W.cell? ⟨sb, 0, none⟩ = some (.pointer (some ⟨cb, 0, none⟩)) ∧ W.cell? ⟨sb, 2, none⟩ = some (.int .i64 (g : Int)))
      (first | (go_keep; done) | exact ⟨(HCK.out _ hk5).1, (HCK.out _ hk5).2.1⟩)
      (first
        | (go_at_call 24; refine (CW.out _ (by repeat (first | exact hx12 | refine Ext.drew ?_ | refine Ext.drewN ?_ _))).mono ?_; rintro e w5 ⟨rfl, hk5, HP⟩))
    go_wp2
    go_ret
    exact HP.out.down (by omega) (fun _ h => h)
  | full hE hi hwf =>
    have hk := logWk M g (txt (encT l))
    have hcS : ∀ y ∈ [cb], y ∈ S := by simp [h.cS.1]
    have CW0 : ∀ W, Ext w W → Calls Tryd.prog 24 #[.pointer (some ⟨cb, 0, none⟩), .int .i64 (g : Int), .string (txt (encT l))] W fun e w5 => e = .returned (errV (writeE M (g : Int) (txt (encT l)))) ∧ Kp w w5 [cb] ∧ ChipAt w5 cb (writeM M (g : Int) (txt (encT l))) := fun W hx =>
      (write_any cb (g : Int) (txt (encT l)) M W (h.chip.ext hx) hub (by
        have : (txt (encT l)).size = (encT l).length := by simp [txt, ByteArray.size]
        omega)).mono fun e w5 ⟨h1, h2, h3⟩ => ⟨h1, (Kp.ofExt hx _).trans (Kp.grown h3), h2⟩
    have CF : Hid (∀ w5, Kp w w5 [cb] → ChipAt w5 cb (writeM M (g : Int) (txt (encT l))) → Calls Tryd.prog 10 #[.pointer (some ⟨sb, 0, none⟩)] w5 fun e w6 =>
        (e = .returned .nilIface ∧ ∃ g2 hb2 : Nat, w6.cell? ⟨sb, 0, none⟩ = some (.pointer (some ⟨cb, 0, none⟩)) ∧ w6.cell? ⟨sb, 2, none⟩ = some (.int .i64 (g2 : Int)) ∧ Hid (∀ W, Ext w6 W → Calls Tryd.prog 24 #[.pointer (some ⟨cb, 0, none⟩), .int .i64 (g2 : Int), .string (txt (encT l))] W fun e w7 => e = .returned .nilIface ∧ w7.cell? ⟨sb, 0, none⟩ = some (.pointer (some ⟨cb, 0, none⟩)) ∧ w7.cell? ⟨sb, 2, none⟩ = some (.int .i64 (g2 : Int)) ∧ w7.cell? ⟨sb, 6, none⟩ = some (.pointer (some ⟨hb2, 0, none⟩)) ∧ Hid (Calls Tryd.prog 25 #[.pointer (some ⟨hb2, 0, none⟩), .slice ao l.length cap] w7 fun e w8 => e = .returned (.tuple #[]) ∧ OpEnd (n + 9) w w8 S sb cb M (· = afterE (rowsE (x.ns.map Nd.e) N O) l) (fun r => r = rowsE (x.ns.map Nd.e) N O ∨ r = afterE (rowsE (x.ns.map Nd.e) N O) l) (WriteQ N) (.returned .nilIface)))) ∨
        (e = .returned .nilIface ∧ ∃ g2 : Nat, w6.cell? ⟨sb, 0, none⟩ = some (.pointer (some ⟨cb, 0, none⟩)) ∧ w6.cell? ⟨sb, 2, none⟩ = some (.int .i64 (g2 : Int)) ∧ Hid (∀ W, Ext w6 W → Calls Tryd.prog 24 #[.pointer (some ⟨cb, 0, none⟩), .int .i64 (g2 : Int), .string (txt (encT l))] W fun e w7 => e = .returned (.iface 62 (.int .i64 9)) ∧ w7.cell? ⟨sb, 0, none⟩ = some (.pointer (some ⟨cb, 0, none⟩)) ∧ w7.cell? ⟨sb, 2, none⟩ = some (.int .i64 (g2 : Int)) ∧ Hid (OpEnd (n + 9) w w7 S sb cb M (· = afterE (rowsE (x.ns.map Nd.e) N O) l) (fun r => r = rowsE (x.ns.map Nd.e) N O ∨ r = afterE (rowsE (x.ns.map Nd.e) N O) l) (WriteQ N) (.returned (.iface 62 (.int .i64 9)))))) ∨
        (e = .returned (.iface 62 (.int .i64 9)) ∧ Hid (OpEnd (n + 9) w w6 S sb cb M (· = afterE (rowsE (x.ns.map Nd.e) N O) l) (fun r => r = rowsE (x.ns.map Nd.e) N O ∨ r = afterE (rowsE (x.ns.map Nd.e) N O) l) (WriteQ N) (.returned (.iface 62 (.int .i64 9)))))) := fun w5 hk5 hc5 => by
      have hk5S := hk5.mono hcS
      refine (flush_any n w5 S sb cb (writeM M (g : Int) (txt (encT l))) m a x N O (h.chg hk5 hc5) hi (hk.leq _ hub (by decide)) hn).mono ?_
      intro e w6 hO
      cases hO with
      | fell M' he hl' hc' hw' hf' hk' =>
        subst he
        refine .inr (.inr ⟨rfl, ?_⟩)
        have hO2 : OpEnd (n + 9) w5 w6 S sb cb (writeM M (g : Int) (txt (encT l))) (· = rowsE (x.ns.map Nd.e) N O) (· = rowsE (x.ns.map Nd.e) N O) (FlushQ (writeM M (g : Int) (txt (encT l))) m) (.returned (.iface 62 (.int .i64 9))) := .fell M' rfl hl' hc' hw' hf' hk'
        exact (hO2.after (P' := (· = rowsE (x.ns.map Nd.e) N O)) (Pf' := (· = rowsE (x.ns.map Nd.e) N O)) (Q' := FlushQ (writeM M (g : Int) (txt (encT l))) m) hk.left hk.leq hk.wk hk5S (fun _ h => .inl h) (fun _ h => h) (fun _ h => h) (fun _ _ _ _ h => h)).down (Nat.le_refl _) (fun _ h => .inl h)
      | ok M2 m2 a2 x2 S2 N2 O2 he hs2 hi2 hr2 hl2 hq2 hw2 hk2 hS2 hQ2 =>
        obtain ⟨p1, p2, ⟨g2, p3, p4, p5, p6⟩, _⟩ := hQ2
        have hl6 : Aside2 w6 S2 ao l := (hl.kp hk5S (fun _ h => .inl h)).kp hk2 hS2
        have hwf2 : writeF (rowsE (x2.ns.map Nd.e) N2 O2) l = 0 := by rw [hr2]; exact hw
        have hwk2 : M2.wk g2 = false := by rw [hw2]; exact p6
        have hbd2 : M2.bd g2 = false := by
          cases hh : M2.bd g2 with
          | false => rfl
          | true => have := hi2.bw g2 hh; rw [hwk2] at this; cases this
        have z0 := hs2.blk.cell 0
        have z2 := hs2.blk.cell 2
        have z6 := hs2.blk.cell 6
        simp [storeC] at z0 z2 z6
        rw [p3] at z2
        have hub2 := hq2 _ (hk.leq _ hub (by decide)) (by decide)
        have hnf : ¬ (writeE M2 (g2 : Int) (txt (encT l)) = 6 ∨ writeE M2 (g2 : Int) (txt (encT l)) = 7) := fun hh => by
          cases log_write hi2 p3 hwf2 with
          | done h0 => rw [h0] at hh; rcases hh with hh | hh <;> cases hh
          | fell h0 => rw [h0] at hh; rcases hh with hh | hh <;> cases hh
          | full h0 _ hno => exact hno ⟨hwk2, hbd2, by rw [p4]; simp⟩
        have LT := log_then (n + 9) w6 S2 sb cb M2 m2 a2 x2 N2 O2 ao cap l g2 hs2 hi2 hub2 p3 hwf2 hl6 hnf
        rw [hr2] at LT
        have hcell : ∀ w7, Kp w6 w7 [cb] → w7.cell? ⟨sb, 0, none⟩ = some (.pointer (some ⟨cb, 0, none⟩)) ∧ w7.cell? ⟨sb, 2, none⟩ = some (.int .i64 (g2 : Int)) ∧ w7.cell? ⟨sb, 6, none⟩ = some (.pointer (some ⟨x2.hb, 0, none⟩)) := fun w7 hK => ⟨hK.cell (by simp [hs2.sc]) z0, hK.cell (by simp [hs2.sc]) z2, hK.cell (by simp [hs2.sc]) z6⟩
        have hS3 : ∀ b ∈ S2, b ∈ S ∨ w.heap.size ≤ b := fun b hb => by
          rcases hS2 b hb with h' | h'
          · exact .inl h'
          · exact .inr (Nat.le_trans hk5.size h')
        have lift : ∀ {w8 : World} {e : Ending}, OpEnd (n + 9) w6 w8 S2 sb cb M2 (· = afterE (rowsE (x.ns.map Nd.e) N O) l) (fun r => r = rowsE (x.ns.map Nd.e) N O ∨ r = afterE (rowsE (x.ns.map Nd.e) N O) l) (PutQ m2 (x2.ns.map Nd.e) l N2) e → OpEnd (n + 9) w w8 S sb cb M (· = afterE (rowsE (x.ns.map Nd.e) N O) l) (fun r => r = rowsE (x.ns.map Nd.e) N O ∨ r = afterE (rowsE (x.ns.map Nd.e) N O) l) (WriteQ N) e := fun hO =>
          hO.after (fun h0 => by rw [hl2 (by rw [hk.left h0]; exact h0), hk.left h0]) (fun k k1 k2 => hq2 k (hk.leq k k1 k2) k2) (hw2.trans hk.wk) (hk5S.trans hk2) hS3 (fun _ h => h) (fun _ h => h) (fun _ _ _ _ hq _ => by rw [hq.1]; exact p1)
        cases log_write hi2 p3 hwf2 with
        | full h0 => exact absurd h0 hnf
        | done h0 =>
          refine .inl ⟨he, g2, x2.hb, z0, z2, fun W hx => (LT W hx).mono ?_⟩
          rintro e w7 (⟨_, t2, t3, t4⟩ | ⟨t1, _⟩)
          · obtain ⟨y0, y2, y6⟩ := hcell w7 t3
            exact ⟨t2, y0, y2, y6, t4.out.mono fun e w8 ⟨u1, u2⟩ => ⟨u1, lift u2⟩⟩
          · rw [h0] at t1; cases t1
        | fell h0 =>
          refine .inr (.inl ⟨he, g2, z0, z2, fun W hx => (LT W hx).mono ?_⟩)
          rintro e w7 (⟨t1, _⟩ | ⟨_, t2, t3, t4⟩)
          · rw [h0] at t1; cases t1
          · obtain ⟨y0, y2, _⟩ := hcell w7 t3
            exact ⟨t2, y0, y2, lift t4.out⟩
    rcases hE with hE | hE
    · have CW : Hid (∀ W, Ext w W → Calls Tryd.prog 24 #[.pointer (some ⟨cb, 0, none⟩), .int .i64 (g : Int), .string (txt (encT l))] W fun e w5 => e = .returned (.iface 62 (.int .i64 6)) ∧ Kp w w5 [cb] ∧ ChipAt w5 cb (writeM M (g : Int) (txt (encT l)))) := fun W hx => by
        have := CW0 W hx; rw [hE] at this; exact this
      clear CW0 h hI hub hl hw hg hbt hl0 hl4 h64 k0 k2 k6 hsc hE hi hwf hk hcS
      generalize rowsE (x.ns.map Nd.e) N O = r0 at *
      generalize afterE r0 l = r1 at *
      generalize txt (encT l) = tx at *
      go_enter Tryd.func9, Tryd.ntmps9
      go_wp2_with (first
        | (go_at_call 22; refine CK.out.mono ?_; rintro e w1 ⟨rfl, hx1⟩)
        | (go_at_call 23; refine (CB.out _ hx1).mono ?_; rintro e w2 ⟨rfl, hx2⟩))
      have hx12 := hx1.trans hx2
      obtain ⟨s0, s2⟩ := HCE.out _ hx12
      go_region_held3 (fun W => W.cell? ⟨sb, 0, none⟩ = some (.pointer (some ⟨cb, 0, none⟩)) ∧ W.cell? ⟨sb, 2, none⟩ = some (.int .i64 (g : Int)))
        (first | (go_keep; done) | exact ⟨(HCK.out _ hk5).1, (HCK.out _ hk5).2.1⟩)
        (first
          | (go_at_call 24; refine (CW.out _ (by repeat (first | exact hx12 | refine Ext.drew ?_ | refine Ext.drewN ?_ _))).mono ?_; rintro e w5 ⟨rfl, hk5, hc5⟩))
      obtain ⟨u0, u2, u6⟩ := HCK.out _ hk5
      go_wp2_with (go_at_call 10; refine (CF.out _ hk5 hc5).mono ?_; rintro e w6 (⟨rfl, g2, hb2, v0, v2, HW⟩ | ⟨rfl, g2, v0, v2, HW⟩ | ⟨rfl, HO⟩))
      · go_region_held3 (fun W => W.cell? ⟨sb, 0, none⟩ = some (.pointer (some ⟨cb, 0, none⟩)) ∧ W.cell? ⟨sb, 2, none⟩ = some (.int .i64 (g2 : Int)))
          (first | (go_keep; done) | exact ⟨y0, y2⟩)
          (first
            | (go_at_call 24; refine (HW.out _ (by repeat (first | exact Ext.refl _ | refine Ext.drew ?_ | refine Ext.drewN ?_ _))).mono ?_; rintro e w7 ⟨rfl, y0, y2, y6, HP⟩))
        go_wp2_with (go_at_call 25; refine HP.out.mono ?_; rintro e w8 ⟨rfl, HO⟩; have HO2 : Hid (OpEnd (n + 9) w w8 S sb cb M (· = r1) (fun r => r = r0 ∨ r = r1) (WriteQ N) (.returned .nilIface)) := HO; clear HO)
        go_ret
        exact HO2.out
      · go_region_held3 (fun W => W.cell? ⟨sb, 0, none⟩ = some (.pointer (some ⟨cb, 0, none⟩)) ∧ W.cell? ⟨sb, 2, none⟩ = some (.int .i64 (g2 : Int)))
          (first | (go_keep; done) | exact ⟨y0, y2⟩)
          (first
            | (go_at_call 24; refine (HW.out _ (by repeat (first | exact Ext.refl _ | refine Ext.drew ?_ | refine Ext.drewN ?_ _))).mono ?_; rintro e w7 ⟨rfl, y0, y2, HO⟩))
        go_wp2
        go_ret
        exact HO.out
      · go_ret
        exact HO.out
    · have CW : Hid (∀ W, Ext w W → Calls Tryd.prog 24 #[.pointer (some ⟨cb, 0, none⟩), .int .i64 (g : Int), .string (txt (encT l))] W fun e w5 => e = .returned (.iface 62 (.int .i64 7)) ∧ Kp w w5 [cb] ∧ ChipAt w5 cb (writeM M (g : Int) (txt (encT l)))) := fun W hx => by
        have := CW0 W hx; rw [hE] at this; exact this
      clear CW0 h hI hub hl hw hg hbt hl0 hl4 h64 k0 k2 k6 hsc hE hi hwf hk hcS
      generalize rowsE (x.ns.map Nd.e) N O = r0 at *
      generalize afterE r0 l = r1 at *
      generalize txt (encT l) = tx at *
      go_enter Tryd.func9, Tryd.ntmps9
      go_wp2_with (first
        | (go_at_call 22; refine CK.out.mono ?_; rintro e w1 ⟨rfl, hx1⟩)
        | (go_at_call 23; refine (CB.out _ hx1).mono ?_; rintro e w2 ⟨rfl, hx2⟩))
      have hx12 := hx1.trans hx2
      obtain ⟨s0, s2⟩ := HCE.out _ hx12
      go_region_held3 (fun W => W.cell? ⟨sb, 0, none⟩ = some (.pointer (some ⟨cb, 0, none⟩)) ∧ W.cell? ⟨sb, 2, none⟩ = some (.int .i64 (g : Int)))
        (first | (go_keep; done) | exact ⟨(HCK.out _ hk5).1, (HCK.out _ hk5).2.1⟩)
        (first
          | (go_at_call 24; refine (CW.out _ (by repeat (first | exact hx12 | refine Ext.drew ?_ | refine Ext.drewN ?_ _))).mono ?_; rintro e w5 ⟨rfl, hk5, hc5⟩))
      obtain ⟨u0, u2, u6⟩ := HCK.out _ hk5
      go_wp2_with (go_at_call 10; refine (CF.out _ hk5 hc5).mono ?_; rintro e w6 (⟨rfl, g2, hb2, v0, v2, HW⟩ | ⟨rfl, g2, v0, v2, HW⟩ | ⟨rfl, HO⟩))
      · go_region_held3 (fun W => W.cell? ⟨sb, 0, none⟩ = some (.pointer (some ⟨cb, 0, none⟩)) ∧ W.cell? ⟨sb, 2, none⟩ = some (.int .i64 (g2 : Int)))
          (first | (go_keep; done) | exact ⟨y0, y2⟩)
          (first
            | (go_at_call 24; refine (HW.out _ (by repeat (first | exact Ext.refl _ | refine Ext.drew ?_ | refine Ext.drewN ?_ _))).mono ?_; rintro e w7 ⟨rfl, y0, y2, y6, HP⟩))
        go_wp2_with (go_at_call 25; refine HP.out.mono ?_; rintro e w8 ⟨rfl, HO⟩; have HO2 : Hid (OpEnd (n + 9) w w8 S sb cb M (· = r1) (fun r => r = r0 ∨ r = r1) (WriteQ N) (.returned .nilIface)) := HO; clear HO)
        go_ret
        exact HO2.out
      · go_region_held3 (fun W => W.cell? ⟨sb, 0, none⟩ = some (.pointer (some ⟨cb, 0, none⟩)) ∧ W.cell? ⟨sb, 2, none⟩ = some (.int .i64 (g2 : Int)))
          (first | (go_keep; done) | exact ⟨y0, y2⟩)
          (first
            | (go_at_call 24; refine (HW.out _ (by repeat (first | exact Ext.refl _ | refine Ext.drew ?_ | refine Ext.drewN ?_ _))).mono ?_; rintro e w7 ⟨rfl, y0, y2, HO⟩))
        go_wp2
        go_ret
        exact HO.out
      · go_ret
        exact HO.out
end Go.Proofs.YtkibgflbidkalaaDoor

/- A store in memory: Open. -/
namespace Go.Proofs.YtkibgflbidkalaaDoor
open Go.RowKit Go.WideShapes

set_option maxRecDepth 20000 in
set_option maxHeartbeats 1000000 in
theorem swrite_bad (n : Nat) (w : World) (S : List Nat) (sb cb : Nat) (M : CM) (m : Man) (a : Nat) (x : SMem) (N O : List Tb) (ao : Option Addr) (cap : Nat) (l : List Ent) (h : StoAt w S sb cb M m a x) (hI : Inv n M m a (x.ns.map Nd.e) N O) (hes : EntsAt w ao l) (hlt : ∀ p, ao = some p → p.block < w.heap.size) (hw : ¬ writeF (rowsE (x.ns.map Nd.e) N O) l = 0) :
    Calls Tryd.prog 9 #[.pointer (some ⟨sb, 0, none⟩), .slice ao l.length cap] w fun e w' => e = .returned (.iface 62 (.int .i64 (writeF (rowsE (x.ns.map Nd.e) N O) l))) ∧ Ext w w' := by
  have CK : Hid (Calls Tryd.prog 22 #[.pointer (some ⟨sb, 0, none⟩), .slice ao l.length cap] w fun e w' => e = .returned (.iface 62 (.int .i64 (writeF (rowsE (x.ns.map Nd.e) N O) l))) ∧ Ext w w') := by
    have := scheck_any n w S sb cb M m a x N O ao cap l h hI hes hlt
    unfold errV at this; rw [if_neg hw] at this; exact this
  clear h hI hes hlt hw
  generalize writeF (rowsE (x.ns.map Nd.e) N O) l = f at *
  go_enter Tryd.func9, Tryd.ntmps9
  go_wp2_with (go_at_call 22; refine CK.out.mono ?_; rintro e w1 ⟨rfl, hx1⟩)
  go_ret
  exact ⟨rfl, hx1⟩
/-- What a page of the log has. -/
theorem log_page {M : CM} {g : Nat} {bs : List (Option (List Ent))} (hd : downB M = false) (hg : g < 24) (hpg : M.pg g = bs.map logPg) (hb : ∀ l, some l ∈ bs → l.length ≤ 4 ∧ (∀ e ∈ l, faultE e = 0) ∧ (encT l).length ≤ 64) (p : Nat) (hp : p < 8) :
    (∀ l, bs[p]? = some (some l) → pageE M (g : Int) (p : Int) = (l, 0)) ∧ ((∀ l, ¬ bs[p]? = some (some l)) → ¬ (pageE M (g : Int) (p : Int)).2 = 0) := by
  have hr := readR_of (M := M) hd hg hp
  rw [hpg, List.getElem?_map] at hr
  refine ⟨fun l hl => ?_, fun hn => ?_⟩
  · rw [hl] at hr
    simp only [Option.map_some, logPg] at hr
    obtain ⟨h4, hf, h64⟩ := hb l (List.mem_of_getElem? hl)
    unfold pageE
    rw [hr]
    simp only
    rw [if_pos trivial]
    unfold entsT
    have : txtL (padD (txt (encT l))) = txt (encT l ++ List.replicate (64 - (txt (encT l)).size) 0) := by unfold txtL padD txt; rfl
    rw [this, parse_encT l _ hf (by omega)]
  · unfold pageE
    cases hh : bs[p]? with
    | none => rw [hh] at hr; simp only [Option.map_none] at hr; rw [hr]; simp
    | some o =>
      cases o with
      | none => rw [hh] at hr; simp only [Option.map_some, logPg] at hr; rw [hr]; simp
      | some l => exact absurd hh (hn l)
/-- A store is opened. -/
structure OpenE (w w' : World) (cb : Nat) (M : CM) (m : Man) (a : Nat) (hand : List Ent) (e : Ending) : Prop where
  ex : ∃ sb S x, e = .returned (.tuple #[.pointer (some ⟨sb, 0, none⟩), .nilIface]) ∧ StoAt w' S sb cb M m a x ∧ x.ns.map Nd.e = hand ∧ Ext w w' ∧ ∀ b ∈ S, b = cb ∨ w.heap.size ≤ b
end Go.Proofs.YtkibgflbidkalaaDoor

/- A store is opened. -/
namespace Go.Proofs.YtkibgflbidkalaaDoor
open Go.RowKit Go.WideShapes

theorem parse_entsN (s : ByteArray) (w : World) (hs : s.size ≤ 281474976710656) :
    Calls Tryd.prog 70 #[.string s] w fun e w' => ∃ ao c, e = .returned (.tuple #[.slice ao (entsT s).1.length c, errV (entsT s).2]) ∧ EntsAt w' ao (entsT s).1 ∧ (∀ a, ao = some a → w.heap.size ≤ a.block) ∧ Ext w w' := by
  refine (parse_any s w hs).mono ?_
  rintro e w' (⟨h1, rfl, hx⟩ | ⟨es, v, h1, rfl, hown, hx⟩)
  · have h2 : entsT s = ([], 4) := by unfold entsT; rw [h1]
    rw [h2]; exact ⟨none, 0, rfl, fun h => absurd rfl h, fun a e => by (cases e), hx⟩
  · have h2 : entsT s = (es, 0) := by unfold entsT; rw [h1]
    obtain ⟨ao, cap, rfl, he⟩ := ents_of_row hown
    rw [h2]; exact ⟨ao, cap, rfl, he, fun a e => own_ge hown a.block (by rw [e]; rfl), hx⟩
set_option maxRecDepth 20000 in
set_option maxHeartbeats 1000000 in
theorem readBatchN_any (cb : Nat) (b p : Int) (M : CM) (w : World) (h : ChipAt w cb M) :
    Calls Tryd.prog 43 #[.pointer (some ⟨cb, 0, none⟩), .int .i64 b, .int .i64 p] w fun e w' => ∃ ao c, e = .returned (.tuple #[.slice ao (pageE M b p).1.length c, errV (pageE M b p).2]) ∧ EntsAt w' ao (pageE M b p).1 ∧ (∀ a, ao = some a → w.heap.size ≤ a.block) ∧ Ext w w' := by
  have HR := read_any cb b p M w h
  have hlen := readR_len h b p
  unfold pageE
  by_cases h0 : (readR M b p).2 = 0
  · have HP : Hid (Calls Tryd.prog 70 #[.string (txtL (readR M b p).1)] w fun e w' => ∃ ao c, e = .returned (.tuple #[.slice ao (entsT (txtL (readR M b p).1)).1.length c, errV (entsT (txtL (readR M b p).1)).2]) ∧ EntsAt w' ao (entsT (txtL (readR M b p).1)).1 ∧ (∀ a, ao = some a → w.heap.size ≤ a.block) ∧ Ext w w') := parse_entsN _ w (by simp [txtL, ByteArray.size]; omega)
    rw [h0] at HR
    have HR' : Hid (Calls Tryd.prog 69 #[.pointer (some ⟨cb, 0, none⟩), .int .i64 b, .int .i64 p] w fun e w' => e = .returned (.tuple #[.string (txtL (readR M b p).1), .nilIface]) ∧ w' = w) := HR
    rw [if_pos h0]
    clear HR h0 h hlen
    generalize txtL (readR M b p).1 = s at *
    generalize entsT s = r at *
    obtain ⟨es, er⟩ := r
    dsimp only at *
    go_enter Tryd.func43, Tryd.ntmps43
    go_wp2_with (first
      | (go_at_call 69; refine HR'.out.mono ?_; rintro e w1 ⟨rfl, rfl⟩)
      | (go_at_call 70; refine HP.out.mono ?_; rintro e w2 ⟨ao, c, rfl, he, hf, hx⟩))
    go_ret2
    exact ⟨ao, c, rfl, he, hf, hx⟩
  · rw [if_neg h0]
    have HR' : Hid (Calls Tryd.prog 69 #[.pointer (some ⟨cb, 0, none⟩), .int .i64 b, .int .i64 p] w fun e w' => e = .returned (.tuple #[.string (txtL (readR M b p).1), .iface 62 (.int .i64 (readR M b p).2)]) ∧ w' = w) := by
      have e : errV (readR M b p).2 = .iface 62 (.int .i64 (readR M b p).2) := by unfold errV; rw [if_neg h0]
      rw [e] at HR; exact HR
    have HE : Hid (errV (readR M b p).2 = .iface 62 (.int .i64 (readR M b p).2)) := by unfold errV Hid; rw [if_neg h0]
    clear HR h0 h hlen
    dsimp only
    rw [HE.out]
    generalize txtL (readR M b p).1 = s at *
    generalize (readR M b p).2 = f at *
    go_enter Tryd.func43, Tryd.ntmps43
    go_wp2_with (go_at_call 69; refine HR'.out.mono ?_; rintro e w1 ⟨rfl, rfl⟩)
    go_ret2
    exact ⟨none, 0, rfl, fun h => absurd rfl h, fun a e => by (cases e), Ext.refl _⟩
/-- Open, behind some pages of the log. -/
structure OpnAt (w wr : World) (sb cb mb : Nat) (M : CM) (m : Man) (a : Nat) (y : SMem) (hd : List Ent) : Prop where
  ex : ∃ S ns, StoAt wr S sb cb M m a (withN y ns) ∧ ns.map Nd.e = hd ∧ Ext w wr ∧ (∀ b ∈ S, b = cb ∨ w.heap.size ≤ b) ∧ mb ∉ S
  mb : Blk wr mb #[.int .i64 m.ep, .int .i64 m.lg, .slice y.a1 m.nw.length y.c1, .slice y.a2 m.od.length y.c2] 42
theorem OpnAt.more {w wr wx : World} {sb cb mb : Nat} {M : CM} {m : Man} {a : Nat} {y : SMem} {hd : List Ent} (h : OpnAt w wr sb cb mb M m a y hd) (hx : Ext wr wx) : OpnAt w wx sb cb mb M m a y hd := by
  obtain ⟨S, ns, h1, h2, h3, h4, h5⟩ := h.ex
  exact ⟨⟨S, ns, h1.ext hx, h2, h3.trans hx, h4, h5⟩, Blk.ext hx h.mb⟩
theorem OpnAt.put {w wp wr : World} {sb cb mb : Nat} {M : CM} {m : Man} {a : Nat} {y : SMem} {hd : List Ent} (h : OpnAt w wp sb cb mb M m a y hd) (hp : M.pend = none) (hl : hd.length ≤ 100) {es : List Ent} (h4 : es.length ≤ 100) (ao : Option Addr) (cap : Nat) (hx : Ext wp wr) (hes : EntsAt wr ao es) (hf : ∀ p, ao = some p → wp.heap.size ≤ p.block) :
    Calls Tryd.prog 25 #[.pointer (some ⟨y.hb, 0, none⟩), .slice ao es.length cap] wr fun e w' => e = .returned (.tuple #[]) ∧ OpnAt w w' sb cb mb M m a y (putsE hd es) := by
  obtain ⟨S, ns, h1, h2, h3, h5, h6⟩ := h.ex
  have k1 := h1.ext hx
  have hn : ns.length ≤ 100 := by rw [← h2] at hl; simpa using hl
  refine (putAll_any y.hb ns ao cap es wr k1.tow (by omega) k1.glob (fun hh => h1.gS (h1.tS _ hh)) hes (fun p e hh => ?_)).mono ?_
  · have := h1.lt _ (h1.tS _ hh)
    have := hf p e
    omega
  · rintro e w' ⟨rfl, hP⟩
    refine ⟨rfl, ?_⟩
    obtain ⟨ms, q1, q2, q3, q4⟩ := k1.putHand (es := es) hp hP
    obtain ⟨_, _, _, _, hK, _⟩ := hP.ex
    refine ⟨⟨_, ms, q1, by rw [q2, ← h2]; rfl, Kp.ext (h3.trans hx) hK (fun b hb => ?_), fun b hb => ?_, fun hh => ?_⟩, hK.Blk (Blk.ext hx h.mb) (fun hh => h6 (h1.tS _ hh))⟩
    · rcases h5 b (h1.tS b hb) with h' | h'
      · exact absurd h' (h1.ts b hb).1
      · exact h'
    · have := (h3.trans hx).size
      rcases q4 b hb with h' | h'
      · exact h5 b h'
      · exact .inr (by omega)
    · have := h.mb.lt
      have := hx.size
      rcases q4 _ hh with h' | h'
      · exact h6 h'
      · omega
theorem OpnAt.c1 {w wr : World} {sb cb mb : Nat} {M : CM} {m : Man} {a : Nat} {y : SMem} {hd : List Ent} (h : OpnAt w wr sb cb mb M m a y hd) : wr.cell? ⟨mb, 1, none⟩ = some (.int .i64 m.lg) := h.mb.cell 1
theorem OpnAt.c6 {w wr : World} {sb cb mb : Nat} {M : CM} {m : Man} {a : Nat} {y : SMem} {hd : List Ent} (h : OpnAt w wr sb cb mb M m a y hd) : wr.cell? ⟨sb, 6, none⟩ = some (.pointer (some ⟨y.hb, 0, none⟩)) := by
  obtain ⟨S, ns, h1, _⟩ := h.ex
  exact h1.blk.cell 6
theorem OpnAt.chip {w wr : World} {sb cb mb : Nat} {M : CM} {m : Man} {a : Nat} {y : SMem} {hd : List Ent} (h : OpnAt w wr sb cb mb M m a y hd) : ChipAt wr cb M := by
  obtain ⟨S, ns, h1, _⟩ := h.ex
  exact h1.chip
/-- Where Open begins. -/
theorem opn_new {w w1 wr : World} {cb mb sb hb : Nat} {M : CM} {m : Man} {a : Nat} {a1 a2 : Option Addr} {c1 c2 : Nat} (hc : ChipAt w cb M) (hg : GlobT w) (hgc : ¬ 1 = cb) (hcl : cb < w.heap.size)
    (h1 : NumsF w1 w.heap.size a1 m.nw) (h2 : NumsF w1 w.heap.size a2 m.od) (hx : Ext w w1) (hx1 : Ext w1 wr) (hmb : Blk wr mb #[.int .i64 m.ep, .int .i64 m.lg, .slice a1 m.nw.length c1, .slice a2 m.od.length c2] 42)
    (hsb : Blk wr sb (storeC cb m a ⟨a1, c1, a2, c2, hb, []⟩) 60) (ht : Tow wr hb []) (g1 : w1.heap.size ≤ mb) (g2 : w1.heap.size ≤ sb) (g3 : w1.heap.size ≤ hb) (d1 : ¬ sb = mb) (d2 : ¬ hb = mb) (d3 : ¬ hb = sb) :
    OpnAt w wr sb cb mb M m a ⟨a1, c1, a2, c2, hb, []⟩ [] := by
  have hs := hx.size
  have hs1 := hx1.size
  have hgl := hg.lt
  have hhl := ht.lt hb (by simp)
  refine ⟨⟨[cb, sb, hb] ++ addrB a1 ++ addrB a2, [], ⟨hc.ext (hx.trans hx1), hg.ext (hx.trans hx1), hsb, (NumsF.ext hx1 h1).at, (NumsF.ext hx1 h2).at, ht, by omega, fun b hb' => ?_, fun p e => ?_, fun p e => ?_, by simp, fun b hb' => ?_, fun p e => ?_, fun hh => ?_, fun b hb' => ?_⟩, rfl, hx.trans hx1, fun b hb' => ?_, fun hh => ?_⟩, hmb⟩
  · have : b = hb := by simpa [withN] using hb'
    omega
  · have := h1.1 p e
    refine ⟨by omega, by omega, ?_⟩
    simp [withN]; omega
  · have := h2.1 p e
    refine ⟨by omega, by omega, ?_⟩
    simp [withN]; omega
  · have : b = hb := by simpa [withN] using hb'
    simp [this]
  · rcases e with e | e
    · have e' : a1 = some p := e
      subst e'; simp [addrB]
    · have e' : a2 = some p := e
      subst e'; simp [addrB]
  · simp only [List.mem_append, List.mem_cons, List.not_mem_nil, or_false] at hh
    rcases hh with (hh | hh) | hh
    · omega
    · cases a1 with
      | none => simp [addrB] at hh
      | some p => have := h1.1 p rfl; simp [addrB] at hh; omega
    · cases a2 with
      | none => simp [addrB] at hh
      | some p => have := h2.1 p rfl; simp [addrB] at hh; omega
  · simp only [List.mem_append, List.mem_cons, List.not_mem_nil, or_false] at hb'
    have := hsb.lt
    rcases hb' with (hh | hh) | hh
    · omega
    · cases a1 with
      | none => simp [addrB] at hh
      | some p => have := h1.1 p rfl; simp [addrB] at hh; omega
    · cases a2 with
      | none => simp [addrB] at hh
      | some p => have := h2.1 p rfl; simp [addrB] at hh; omega
  · simp only [List.mem_append, List.mem_cons, List.not_mem_nil, or_false] at hb'
    rcases hb' with (hh | hh) | hh
    · omega
    · cases a1 with
      | none => simp [addrB] at hh
      | some p => have := h1.1 p rfl; simp [addrB] at hh; omega
    · cases a2 with
      | none => simp [addrB] at hh
      | some p => have := h2.1 p rfl; simp [addrB] at hh; omega
  · simp only [List.mem_append, List.mem_cons, List.not_mem_nil, or_false] at hh
    rcases hh with (hh | hh) | hh
    · omega
    · cases a1 with
      | none => simp [addrB] at hh
      | some p => have := h1.1 p rfl; simp [addrB] at hh; omega
    · cases a2 with
      | none => simp [addrB] at hh
      | some p => have := h2.1 p rfl; simp [addrB] at hh; omega
set_option maxRecDepth 20000 in
set_option maxHeartbeats 2000000 in
theorem open_any (n : Nat) (w : World) (cb : Nat) (M : CM) (m : Man) (a : Nat) (hand : List Ent) (N O : List Tb) (hc : ChipAt w cb M) (hg : GlobT w) (hgc : ¬ 1 = cb) (hcl : cb < w.heap.size) (hI : Inv n M m a hand N O) :
    Calls Tryd.prog 19 #[.pointer (some ⟨cb, 0, none⟩)] w fun e w' => OpenE w w' cb M m a hand e := by
  have hp := hI.nst.up
  have hd : downB M = false := by unfold downB; rw [hp]; rfl
  have HF : Hid (Calls Tryd.prog 37 #[.pointer (some ⟨cb, 0, none⟩)] w fun e w' => ∃ a1 c1 a2 c2, e = .returned (.tuple #[.agg #[.int .i64 m.ep, .int .i64 m.lg, .slice a1 m.nw.length c1, .slice a2 m.od.length c2], .int .i64 (a : Int), .nilIface]) ∧ NumsF w' w.heap.size a1 m.nw ∧ NumsF w' w.heap.size a2 m.od ∧ Ext w w') := by
    refine (find_up cb M w hc hd).mono ?_
    rw [find_some hI.nst]
    rintro e w' ⟨hx, (⟨m', a', a1, c1, a2, c2, hh, rfl, n1, n2⟩ | ⟨hh, _⟩)⟩
    · cases hh; exact ⟨a1, c1, a2, c2, rfl, n1, n2, hx⟩
    · cases hh
  obtain ⟨g, hlg, hL⟩ := hI.lg
  obtain ⟨bs, hpg, hb8, hbs, hhand⟩ := hL.ex
  have hg24 : g < 24 := by
    have := (scan_zero (manF_zero hI.ok).2).1 m.lg (by simp)
    omega
  have HPG : Hid (∀ p : Nat, p < 8 → (∀ l, bs[p]? = some (some l) → pageE M (g : Int) (p : Int) = (l, 0)) ∧ ((∀ l, ¬ bs[p]? = some (some l)) → ¬ (pageE M (g : Int) (p : Int)).2 = 0)) := fun p h8 => log_page hd hg24 hpg hbs p h8
  have HH : Hid (∀ k : Nat, ((bs.take k).foldl logHand []).length ≤ 100) := fun k => by
    have := (logHand_ok (bs.take k) [] Ris.nil (by simp) (fun l hl => ⟨(hbs l (List.mem_of_mem_take hl)).1, (hbs l (List.mem_of_mem_take hl)).2.1⟩)).2.2
    simp at this; omega
  have HOP : Hid (∀ w1 wr mb sb hb a1 c1 a2 c2, NumsF w1 w.heap.size a1 m.nw → NumsF w1 w.heap.size a2 m.od → Ext w w1 → Ext w1 wr → Blk wr mb #[.int .i64 m.ep, .int .i64 m.lg, .slice a1 m.nw.length c1, .slice a2 m.od.length c2] 42 → Blk wr sb (storeC cb m a ⟨a1, c1, a2, c2, hb, []⟩) 60 → Tow wr hb [] → w1.heap.size ≤ mb → w1.heap.size ≤ sb → w1.heap.size ≤ hb → ¬ sb = mb → ¬ hb = mb → ¬ hb = sb → OpnAt w wr sb cb mb M m a ⟨a1, c1, a2, c2, hb, []⟩ []) := fun w1 wr mb sb hb a1 c1 a2 c2 => opn_new hc hg hgc hcl
  have HLG : Hid (m.lg = (g : Int)) := hlg
  clear hI hL hpg hc hg hlg
  go_enter Tryd.func19, Tryd.ntmps19
  go_wp2_with (go_at_call 37; refine HF.out.mono ?_; rintro e w1 ⟨a1, c1, a2, c2, rfl, hn1, hn2, hx1⟩)
  have hM : Blk (w1.alloc (Obj.cells #[.int .i64 m.ep, .int .i64 m.lg, .slice a1 m.nw.length c1, .slice a2 m.od.length c2] 42)) w1.heap.size #[.int .i64 m.ep, .int .i64 m.lg, .slice a1 m.nw.length c1, .slice a2 m.od.length c2] 42 := Blk.new _ _ _
  have hxm : Ext w1 (w1.alloc (Obj.cells #[.int .i64 m.ep, .int .i64 m.lg, .slice a1 m.nw.length c1, .slice a2 m.od.length c2] 42)) := (Ext.refl _).alloc _
  generalize w1.alloc (Obj.cells #[.int .i64 m.ep, .int .i64 m.lg, .slice a1 m.nw.length c1, .slice a2 m.od.length c2] 42) = wm at *
  have HM : Hid (Blk wm w1.heap.size #[.int .i64 m.ep, .int .i64 m.lg, .slice a1 m.nw.length c1, .slice a2 m.od.length c2] 42) := hM
  have k0 : _ = some (Value.int .i64 m.ep) := hM.cell 0
  have k1 : _ = some (Value.int .i64 m.lg) := hM.cell 1
  have k2 : _ = some (Value.slice a1 m.nw.length c1) := hM.cell 2
  have k3 : _ = some (Value.slice a2 m.od.length c2) := hM.cell 3
  have hlm := hM.lt
  go_region_held3 (fun w' => w'.cell? ⟨w1.heap.size, 0, none⟩ = some (.int .i64 m.ep) ∧ w'.cell? ⟨w1.heap.size, 1, none⟩ = some (.int .i64 m.lg) ∧ w'.cell? ⟨w1.heap.size, 2, none⟩ = some (.slice a1 m.nw.length c1) ∧ w'.cell? ⟨w1.heap.size, 3, none⟩ = some (.slice a2 m.od.length c2))
    (first | (go_keep; done) | exact ⟨hw2.cell k0, hw2.cell k1, hw2.cell k2, hw2.cell k3⟩)
    (first | (go_at_call 42; refine (tnew_any _).mono ?_; rintro e w2 ⟨rfl, hw0⟩; have hw2 : Ext wm w2 := (by rw [hw0]; repeat (first | exact Ext.refl _ | refine Ext.drew ?_ | refine Ext.drewN ?_ _ | refine Ext.alloc ?_ _))))
  have hXm : Ext wm (((wm.alloc listO).alloc (Obj.cells (storeC cb m a ⟨a1, c1, a2, c2, wm.heap.size, []⟩) 60)).drew) := (((Ext.refl _).alloc _).alloc _).drew
  have hO := HOP.out w1 (((wm.alloc listO).alloc (Obj.cells (storeC cb m a ⟨a1, c1, a2, c2, wm.heap.size, []⟩) 60)).drew) w1.heap.size (wm.heap.size + 1) wm.heap.size a1 c1 a2 c2 hn1 hn2 hx1 (hxm.trans hXm) (Blk.ext hXm HM.out) (Blk.drew (Blk.new' _ _ _ (by simp))) ((tow_new wm).ext (((Ext.refl _).alloc _).drew)) (Nat.le_refl _) (by omega) (by omega) (by omega) (by omega) (by omega)
  rw [show (((wm.alloc listO).alloc (Obj.cells (storeC cb m a ⟨a1, c1, a2, c2, wm.heap.size, []⟩) 60)).drew) = (((wm.alloc listO).alloc (Obj.cells #[.pointer (some ⟨cb, 0, none⟩), .int .i64 m.ep, .int .i64 m.lg, .slice a1 m.nw.length c1, .slice a2 m.od.length c2, .int .i64 (a : Int), .pointer (some ⟨wm.heap.size, 0, none⟩)] 60)).drew) from rfl] at hO
  rename_i hold
  clear hold
  clear HM HOP HF hn1 hn2 hx1 hxm hXm hM k0 k1 k2 k3
  generalize (((wm.alloc listO).alloc (Obj.cells #[.pointer (some ⟨cb, 0, none⟩), .int .i64 m.ep, .int .i64 m.lg, .slice a1 m.nw.length c1, .slice a2 m.od.length c2, .int .i64 (a : Int), .pointer (some ⟨wm.heap.size, 0, none⟩)] 60)).drew) = w4 at *
  generalize wm.heap.size + 1 = sb at *
  generalize wm.heap.size = hb at *
  generalize w1.heap.size = mb at *
  go_wp2
  have HO : Hid (OpnAt w w4 sb cb mb M m a ⟨a1, c1, a2, c2, hb, []⟩ ((bs.take 0).foldl logHand [])) := hO
  clear hO
  go_loopw [8, 9, 10, 26] (fun _ _ _ i wr => ∃ k : Nat, k ≤ 8 ∧ i = .int .i64 (k : Int) ∧ OpnAt w wr sb cb mb M m a ⟨a1, c1, a2, c2, hb, []⟩ ((bs.take k).foldl logHand [])) (fun _ _ _ i _ => 8 - (intOf i).toNat)
  case atStart => exact ⟨0, by omega, rfl, HO.out⟩
  case round =>
    obtain ⟨k, hk, rfl, hO⟩ := hrel
    clear HO
    by_cases hlt : k < 8
    · have h1 := hO.c1
      have h6 := hO.c6
      have hml := hO.mb.lt
      have HRB := readBatchN_any cb m.lg (k : Int) M wr hO.chip
      have hnx : (bs.take (k + 1)).foldl logHand [] = match bs[k]? with
          | some o => logHand ((bs.take k).foldl logHand []) o
          | none => (bs.take k).foldl logHand [] := by
        rw [List.take_add_one, List.foldl_append]
        cases bs[k]? <;> rfl
      by_cases hx : ∃ l, bs[k]? = some (some l)
      · obtain ⟨l, hl⟩ := hx
        rw [HLG.out, (HPG.out k hlt).1 l hl, ← HLG.out] at HRB
        rw [hl] at hnx
        have hl4 := (hbs l (List.mem_of_getElem? hl)).1
        have HRB' : Hid (Calls Tryd.prog 43 #[.pointer (some ⟨cb, 0, none⟩), .int .i64 m.lg, .int .i64 (k : Int)] wr fun e w' => ∃ ao c, e = .returned (.tuple #[.slice ao l.length c, .nilIface]) ∧ EntsAt w' ao l ∧ (∀ a, ao = some a → wr.heap.size ≤ a.block) ∧ Ext wr w') := HRB
        have hh32 := HH.out k
        have HPA : Hid (∀ W ao c, Ext wr W → EntsAt W ao l → (∀ p, ao = some p → wr.heap.size ≤ p.block) → Calls Tryd.prog 25 #[.pointer (some ⟨hb, 0, none⟩), .slice ao l.length c] W fun e w' => e = .returned (.tuple #[]) ∧ OpnAt w w' sb cb mb M m a ⟨a1, c1, a2, c2, hb, []⟩ ((bs.take (k + 1)).foldl logHand [])) := fun W ao c hx he hf => by
          rw [hnx]
          exact hO.put hp hh32 (by omega) ao c hx he hf
        clear HRB hnx hl hO
        go_wp2_with (first
          | (go_at_call 43; refine HRB'.out.mono ?_; rintro e w2 ⟨ao, c, rfl, he2, hf2, hx2⟩; have k6 := hx2.cell h6; have hz2 := hx2.size)
          | (go_at_call 25; refine (HPA.out _ _ _ hx2 he2 hf2).mono ?_; rintro e w3 ⟨rfl, hO3⟩))
        go_roundw
        case rel => exact ⟨k + 1, by omega, by go_num, hO3⟩
        case measure => simp [intOf]; omega
      · have hn : ∀ l, ¬ bs[k]? = some (some l) := fun l hl => hx ⟨l, hl⟩
        have hne := (HPG.out k hlt).2 hn
        rw [← HLG.out] at hne
        have HN : Hid (OpnAt w wr sb cb mb M m a ⟨a1, c1, a2, c2, hb, []⟩ ((bs.take (k + 1)).foldl logHand [])) := by
          rw [Hid, hnx]
          cases hh : bs[k]? with
          | none => exact hO
          | some o =>
            cases o with
            | none => exact hO
            | some l => exact absurd hh (hn l)
        have HRB' : Hid (Calls Tryd.prog 43 #[.pointer (some ⟨cb, 0, none⟩), .int .i64 m.lg, .int .i64 (k : Int)] wr fun e w' => ∃ ao j c f, e = .returned (.tuple #[.slice ao j c, .iface 62 (.int .i64 f)]) ∧ Ext wr w') := by
          refine HRB.mono ?_
          rintro e w' ⟨ao, c, rfl, _, _, hx⟩
          refine ⟨ao, (pageE M m.lg k).1.length, c, (pageE M m.lg k).2, ?_, hx⟩
          unfold errV
          rw [if_neg hne]
        clear HRB hnx hx hn hO hne
        go_wp2_with (go_at_call 43; refine HRB'.out.mono ?_; rintro e w2 ⟨ao, j, c, f, rfl, hx2⟩)
        go_roundw
        case rel => exact ⟨k + 1, by omega, by go_num, HN.out.more hx2⟩
        case measure => simp [intOf]; omega
    · have hk8 : k = 8 := by omega
      subst hk8
      have HE : Hid (OpnAt w wr sb cb mb M m a ⟨a1, c1, a2, c2, hb, []⟩ hand) := by
        rw [List.take_of_length_le hb8] at hO
        rw [Hid, hhand]; exact hO
      clear hO
      go_wp2
      go_ret2
      obtain ⟨S, ns, q1, q2, q3, q4, q5⟩ := HE.out.ex
      exact ⟨sb, S, _, rfl, q1, q2, q3, q4⟩
end Go.Proofs.YtkibgflbidkalaaDoor
