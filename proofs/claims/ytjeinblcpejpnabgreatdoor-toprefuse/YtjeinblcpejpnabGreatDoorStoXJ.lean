/- StoW StoX. -/
import Derived.Test.YtjeinblcpejpnabGreatDoorStoPJ
import Derived.Test.YtjeinblcpejpnabGreatDoorStoVJ

/- A store in plain words: a batch is written. -/
namespace Go.Proofs.YtjeinblcpejpnabGreatDoor
open Go.RowKit

/-- Rows behind changes. -/
def afterE (rows l : List Ent) : List Ent := liveE (putsE rows l)
/-- What is wrong with changes. -/
def writeF (rows l : List Ent) : Int := if l.length = 0 ∨ 4 < l.length then 2 else if ¬ (bytesT l).2 = 0 then (bytesT l).2 else if 40 < (afterE rows l).length then 8 else 0
theorem getE_rows (hand : List Ent) (N O : List Tb) (k : ByteArray) : getE (rowsE hand N O) k = liveO (getE (allE (hand :: (tabsE N ++ tabsE O))) k) := getE_live (Ris.all _) k
/-- Changes on top of all that there is. -/
theorem rows_with {hand : List Ent} {N O : List Tb} (l : List Ent) : liveE (allE (putsE [] l :: hand :: (tabsE N ++ tabsE O))) = afterE (rowsE hand N O) l := by
  refine live_ext (Ris.all _) ((rowsE_ris hand N O).puts l) fun k => ?_
  rw [getE_cons_all (Ris.nil.puts l), getE_putsL l Ris.nil, getE_putsL l (rowsE_ris hand N O), getE_rows, getE_nil, Option.or_none, liveO_or]
theorem rows_put {hand : List Ent} (hh : Ris hand) {N O : List Tb} (l : List Ent) : rowsE (putsE hand l) N O = afterE (rowsE hand N O) l := by
  refine live_ext (Ris.all _) ((rowsE_ris hand N O).puts l) fun k => ?_
  rw [getE_cons_all (hh.puts l), getE_putsL l hh, getE_putsL l (rowsE_ris hand N O), getE_rows, getE_cons_all hh, Option.or_assoc, liveO_or]
theorem writeF_ok {rows l : List Ent} (h : writeF rows l = 0) : 0 < l.length ∧ l.length ≤ 4 ∧ bytesT l = (encT l, 0) ∧ (∀ e ∈ l, faultE e = 0) ∧ (encT l).length ≤ 64 ∧ (afterE rows l).length ≤ 40 := by
  unfold writeF at h
  by_cases h1 : l.length = 0 ∨ 4 < l.length
  · rw [if_pos h1] at h; cases h
  · rw [if_neg h1] at h
    by_cases h2 : (bytesT l).2 = 0
    · rw [if_neg (by simp [h2])] at h
      by_cases h3 : 40 < (afterE rows l).length
      · rw [if_pos h3] at h; cases h
      · have hb := h2
        unfold bytesT at hb
        by_cases h4 : faultsE l = 0
        · rw [if_neg (by simp [h4])] at hb
          by_cases h5 : 64 < (encT l).length
          · rw [if_pos h5] at hb; cases hb
          · refine ⟨by omega, by omega, ?_, faultsE_zero h4, by omega, by omega⟩
            unfold bytesT; rw [if_neg (by simp [h4]), if_neg h5]
        · rw [if_pos h4] at hb; exact absurd hb h4
    · rw [if_pos h2] at h; exact absurd h h2
/-- A batch is in the log. -/
theorem Inv.put {n : Nat} {M M' : CM} {m : Man} {a : Nat} {hand l : List Ent} {N O : List Tb} {g : Nat} (h : Inv n M m a hand N O) (hg : m.lg = (g : Int)) (hl : (M.pg g).length < 8) (hpg : M'.pg g = M.pg g ++ [.whole (padD (txt (encT l)))]) (ho : ∀ b, ¬ b = g → M'.pg b = M.pg b) (hp : M'.pend = none) (hwk : M'.wk = M.wk) (hbd : M'.bd = M.bd) (hwr : M'.wr = M.wr)
    (h4 : l.length ≤ 4) (hf : ∀ e ∈ l, faultE e = 0) (h64 : (encT l).length ≤ 64) (hr : (afterE (rowsE hand N O) l).length ≤ 40) : Inv n M' m a (putsE hand l) N O := by
  obtain ⟨hnm1, hnm2⟩ := man_names h.ok
  have hg2 := hnm1 m.lg (by simp)
  obtain ⟨g', hg', hlog⟩ := h.lg
  obtain rfl : g' = g := by omega
  have hrow := rows_put (hand := hand) h.hand.1 (N := N) (O := O) l
  have hne : ∀ b : Nat, (b : Int) ∈ m.nw ++ m.od → ¬ b = g' := fun b hb e => by
    subst e
    exact (List.nodup_cons.1 hnm2).1 (by rw [hg']; exact hb)
  refine ⟨h.nst.keep2 hp (fun b hb => ho b (by omega)) (fun b _ => by rw [hwk]) (fun b _ => by rw [hbd]), h.ok, h.ep, by rw [hwr]; exact h.wr, h.nw, h.od, fun x hx => ?_, fun x hx => ?_, ⟨g', hg', hlog.snoc hl hpg h4 hf h64⟩, h.ris, h.live, h.few, h.few', by rw [hrow]; exact hr, h.trows, by rw [hbd, hwk]; exact h.bw, by rw [hwk]; exact h.wk⟩
  · have ht := h.tn x hx
    exact ⟨ht.ok, ht.lt, by rw [ho x.b (hne x.b (by rw [h.nw]; simp; exact .inl ⟨x, hx, rfl⟩))]; exact ht.pg⟩
  · have ht := h.told x hx
    exact ⟨ht.ok, ht.lt, by rw [ho x.b (hne x.b (by rw [h.od]; simp; exact .inr ⟨x, hx, rfl⟩))]; exact ht.pg⟩
theorem Inv.torn {n : Nat} {M M' : CM} {m : Man} {a : Nat} {hand : List Ent} {N O : List Tb} {g : Nat} (h : Inv n M m a hand N O) (hg : m.lg = (g : Int)) (hl : (M.pg g).length < 8) (hpg : M'.pg g = M.pg g ++ [.torn]) (ho : ∀ b, ¬ b = g → M'.pg b = M.pg b) (hp : M'.pend = none) (hwk : M'.wk = M.wk) (hbd : M'.bd = M.bd) (hwr : M'.wr = M.wr) : Inv n M' m a hand N O := by
  obtain ⟨hnm1, hnm2⟩ := man_names h.ok
  have hg2 := hnm1 m.lg (by simp)
  obtain ⟨g', hg', hlog⟩ := h.lg
  obtain rfl : g' = g := by omega
  have hne : ∀ b : Nat, (b : Int) ∈ m.nw ++ m.od → ¬ b = g' := fun b hb e => by
    subst e
    exact (List.nodup_cons.1 hnm2).1 (by rw [hg']; exact hb)
  refine ⟨h.nst.keep2 hp (fun b hb => ho b (by omega)) (fun b _ => by rw [hwk]) (fun b _ => by rw [hbd]), h.ok, h.ep, by rw [hwr]; exact h.wr, h.nw, h.od, fun x hx => ?_, fun x hx => ?_, ⟨g', hg', hlog.torn hl hpg⟩, h.ris, h.live, h.few, h.few', h.rows, h.trows, by rw [hbd, hwk]; exact h.bw, by rw [hwk]; exact h.wk⟩
  · have ht := h.tn x hx
    exact ⟨ht.ok, ht.lt, by rw [ho x.b (hne x.b (by rw [h.nw]; simp; exact .inl ⟨x, hx, rfl⟩))]; exact ht.pg⟩
  · have ht := h.told x hx
    exact ⟨ht.ok, ht.lt, by rw [ho x.b (hne x.b (by rw [h.od]; simp; exact .inr ⟨x, hx, rfl⟩))]; exact ht.pg⟩
/-- What a write to the log comes to. -/
inductive LogW (n : Nat) (M : CM) (m : Man) (a : Nat) (hand l : List Ent) (N O : List Tb) (g : Nat) : Prop
  | done (h0 : writeE M (g : Int) (txt (encT l)) = 0) (hi : Inv n (writeM M (g : Int) (txt (encT l))) m a (putsE hand l) N O) (hp : (writeM M (g : Int) (txt (encT l))).pend = none)
  | fell (h0 : writeE M (g : Int) (txt (encT l)) = 9) (hl : ¬ M.left < 0) (hf : FellOk n (writeM M (g : Int) (txt (encT l))) (fun r => r = rowsE hand N O ∨ r = afterE (rowsE hand N O) l))
  | full (h0 : writeE M (g : Int) (txt (encT l)) = 6 ∨ writeE M (g : Int) (txt (encT l)) = 7) (hi : Inv n (writeM M (g : Int) (txt (encT l))) m a hand N O) (hw : ¬ (M.wk g = false ∧ M.bd g = false ∧ (M.pg g).length < 8))
structure LogWk (M : CM) (g : Nat) (s : ByteArray) : Prop where
  wk : (writeM M (g : Int) s).wk = M.wk
  left : M.left < 0 → (writeM M (g : Int) s).left = M.left
  leq : ∀ k, M.left ≤ k → 0 ≤ k → (writeM M (g : Int) s).left ≤ k
theorem logWk (M : CM) (g : Nat) (s : ByteArray) : LogWk M g s := by
  refine ⟨?_, fun hl => ?_, fun k h1 h2 => ?_⟩
  · unfold writeM
    repeat' split
    all_goals first | rfl | exact tick_wk M
  · unfold writeM
    repeat' split
    all_goals first | rfl | exact tick_keep hl
  · unfold writeM
    repeat' split
    all_goals first | exact h1 | exact tick_leq M k h1 h2
theorem log_write {n : Nat} {M : CM} {m : Man} {a : Nat} {hand l : List Ent} {N O : List Tb} {g : Nat} (h : Inv n M m a hand N O) (hg : m.lg = (g : Int)) (hw : writeF (rowsE hand N O) l = 0) : LogW n M m a hand l N O g := by
  obtain ⟨h0, h4, hb, hf, h64, hr⟩ := writeF_ok hw
  obtain ⟨hnm1, _⟩ := man_names h.ok
  have hg2 := hnm1 m.lg (by simp)
  have hup := h.nst.up
  have hsz : (txt (encT l)).size ≤ 64 := by
    have : (txt (encT l)).size = (encT l).length := by simp [txt, ByteArray.size]
    omega
  have hgt : (g : Int).toNat = g := by omega
  have hdown : downB M = false := by unfold downB; rw [hup]; rfl
  have hl8 : (M.pg g).length ≤ 8 := by
    obtain ⟨g', hg', hlog⟩ := h.lg
    obtain rfl : g' = g := by omega
    obtain ⟨bs, e1, e2, _⟩ := hlog.ex
    rw [e1]; simpa using e2
  cases hbd : M.bd g with
  | true =>
    have hr7 : readyE M (g : Int) = 7 := by unfold readyE; rw [hdown]; simp only [Bool.false_eq_true, if_false]; rw [if_pos (by omega), hgt, hbd]; rfl
    have e1 : writeE M (g : Int) (txt (encT l)) = 7 := by unfold writeE; rw [if_pos (by rw [hr7]; simp), hr7]
    have e2 : writeM M (g : Int) (txt (encT l)) = M := by unfold writeM; rw [if_pos (by rw [hr7]; simp)]
    exact .full (.inr e1) (by rw [e2]; exact h) (fun hh => by rw [hbd] at hh; cases hh.2.1)
  | false =>
    have hr0 := ready_nst hup (show g < 24 by omega) hbd
    by_cases h8 : (M.pg g).length = 8
    · have e1 : writeE M (g : Int) (txt (encT l)) = 6 := by unfold writeE; rw [if_neg (by simp [hr0]), if_neg (by omega), hgt, if_pos h8]
      have e2 : writeM M (g : Int) (txt (encT l)) = M := by unfold writeM; rw [if_neg (by simp [hr0]), if_neg (by omega), hgt, if_pos h8]
      exact .full (.inl e1) (by rw [e2]; exact h) (fun hh => by omega)
    · cases hwk : M.wk g with
      | true =>
        have e1 : writeE M (g : Int) (txt (encT l)) = 7 := by unfold writeE; rw [if_neg (by simp [hr0]), if_neg (by omega), hgt, if_neg h8, if_pos hwk]
        have e2 : writeM M (g : Int) (txt (encT l)) = { M with bd := upd M.bd g true } := by unfold writeM; rw [if_neg (by simp [hr0]), if_neg (by omega), hgt, if_neg h8, if_pos hwk]
        refine .full (.inr e1) ?_ (fun hh => by rw [hwk] at hh; cases hh.1)
        rw [e2]
        refine h.keep (fun _ _ => rfl) (fun _ _ => rfl) hup rfl (fun b hb => ?_) h.wr (Nat.le_refl _)
        by_cases e : b = g
        · subst e; exact hwk
        · have : upd M.bd g true b = true := hb
          rw [upd_other _ _ _ e] at this
          exact h.bw b this
      | false =>
        obtain ⟨e1, e2⟩ := write_nst (s := txt (encT l)) hup (show g < 24 by omega) hbd hwk hsz (by omega)
        by_cases hl : M.left = 0
        · rw [if_pos hl] at e1 e2
          refine .fell e1 (by omega) (fun how => ?_)
          rw [e2]
          have hpn : ({ M with pend := some (.write g (padD (txt (encT l)))) } : CM).pend = some (.write g (padD (txt (encT l)))) := rfl
          have hres := restart_some how hpn
          obtain ⟨r1, r2, r3, r4⟩ := restart_far hpn how
          have hlow := restart_left ({ M with pend := some (.write g (padD (txt (encT l)))) } : CM) how
          have hro : ∀ b, ¬ b = g → (restartM { M with pend := some (.write g (padD (txt (encT l)))) } how).pg b = M.pg b := fun b hb => r1 b hb
          by_cases w2 : how = 2
          · have hpg : (restartM { M with pend := some (.write g (padD (txt (encT l)))) } how).pg g = M.pg g ++ [.whole (padD (txt (encT l)))] ∧ (restartM { M with pend := some (.write g (padD (txt (encT l)))) } how).wr = M.wr := by
              rw [hres]; unfold stepped; rw [if_pos w2]
              exact ⟨upd_same _ _ _, rfl⟩
            refine ⟨m, a, putsE hand l, N, O, h.put hg (by omega) hpg.1 hro r4 r2 r3 hpg.2 h4 hf h64 hr, .inr (rows_put h.hand.1 l), hlow, r2⟩
          · by_cases w1 : how = 1
            · have hpg : (restartM { M with pend := some (.write g (padD (txt (encT l)))) } how).pg g = M.pg g ++ [.torn] ∧ (restartM { M with pend := some (.write g (padD (txt (encT l)))) } how).wr = M.wr := by
                rw [hres]; unfold stepped; rw [if_neg w2, if_pos w1]
                exact ⟨upd_same _ _ _, rfl⟩
              exact ⟨m, a, hand, N, O, h.torn hg (by omega) hpg.1 hro r4 r2 r3 hpg.2, .inl rfl, hlow, r2⟩
            · have hpg : (restartM { M with pend := some (.write g (padD (txt (encT l)))) } how).pg = M.pg ∧ (restartM { M with pend := some (.write g (padD (txt (encT l)))) } how).wr = M.wr := by
                rw [hres]; unfold stepped; rw [if_neg w2, if_neg w1]
                exact ⟨rfl, rfl⟩
              exact ⟨m, a, hand, N, O, h.keep (fun b _ => by rw [hpg.1]) (fun b _ => by rw [hpg.1]) r4 r2 (by rw [r3, r2]; exact h.bw) (by rw [hpg.2]; exact h.wr) (Nat.le_refl _), .inl rfl, hlow, r2⟩
        · rw [if_neg hl] at e1 e2
          have hpn : (writeM M (g : Int) (txt (encT l))).pend = none := by rw [e2]; show (tickM M).pend = none; rw [tick_pend]; exact hup
          refine .done e1 (h.put hg (by omega) ?_ (fun b hb => ?_) hpn ?_ ?_ ?_ h4 hf h64 hr) hpn
          · rw [e2]; show upd (tickM M).pg g _ g = _; rw [upd_same, tick_pg]
          · rw [e2]; show upd (tickM M).pg g _ b = _; rw [upd_other _ _ _ hb, tick_pg]
          · rw [e2]; exact tick_wk M
          · rw [e2]; exact tick_bd M
          · rw [e2]; exact tick_wr M
end Go.Proofs.YtjeinblcpejpnabGreatDoor

/- A store in memory: Check. -/
namespace Go.Proofs.YtjeinblcpejpnabGreatDoor
open Go.RowKit Go.WideShapes

set_option maxRecDepth 20000 in
set_option maxHeartbeats 4000000 in
theorem scheck_any (n : Nat) (w : World) (S : List Nat) (sb cb : Nat) (M : CM) (m : Man) (a : Nat) (x : SMem) (N O : List Tb) (ao : Option Addr) (cap : Nat) (l : List Ent) (h : StoAt w S sb cb M m a x) (hI : Inv n M m a (x.ns.map Nd.e) N O) (hes : EntsAt w ao l) (hlt : ∀ p, ao = some p → p.block < w.heap.size) :
    Calls Tryz.prog 15 #[.pointer (some ⟨sb, 0, none⟩), .slice ao l.length cap] w fun e w' => e = .returned (errV (writeF (rowsE (x.ns.map Nd.e) N O) l)) ∧ Ext w w' := by
  by_cases h0 : l.length = 0
  · have HF : Hid (writeF (rowsE (x.ns.map Nd.e) N O) l = 2) := by rw [Hid]; unfold writeF; rw [if_pos (.inl h0)]
    rw [HF.out]
    have h0' : ((l.length : Int) == 0) = true := by simp; exact List.eq_nil_of_length_eq_zero h0
    clear h hI hes hlt HF h0
    generalize l.length = ll at *
    go_enter Tryz.func15, Tryz.ntmps15
    go_wp2
    go_ret
    exact ⟨rfl, Ext.refl _⟩
  · by_cases h4 : 4 < l.length
    · have HF : Hid (writeF (rowsE (x.ns.map Nd.e) N O) l = 2) := by rw [Hid]; unfold writeF; rw [if_pos (.inr h4)]
      rw [HF.out]
      have h0' : ((l.length : Int) == 0) = false := by rw [beq_eq_false_iff_ne]; omega
      have h4' : (4 : Int) < (l.length : Int) := by omega
      clear h hI hes hlt HF h0 h4
      generalize l.length = ll at *
      go_enter Tryz.func15, Tryz.ntmps15
      go_wp2
      go_ret
      exact ⟨rfl, Ext.refl _⟩
    · have h0' : ((l.length : Int) == 0) = false := by rw [beq_eq_false_iff_ne]; omega
      have h4' : ¬ (4 : Int) < (l.length : Int) := by omega
      have CB := bytes_any ao cap l w (by omega) hes
      by_cases hb : (bytesT l).2 = 0
      · have CB2 : Hid (Calls Tryz.prog 40 #[.slice ao l.length cap] w fun e w' => e = .returned (.tuple #[.string (txt (bytesT l).1), .nilIface]) ∧ Ext w w') := by
          rw [hb] at CB; exact CB
        have CN : Hid (∀ W, Calls Tryz.prog 36 #[] W fun e w' => e = .returned (.pointer (some ⟨W.heap.size, 0, none⟩)) ∧ Tow w' W.heap.size [] ∧ Ext W w') := fun W => (tnew_any W).mono fun e w' ⟨h1, h2⟩ => by subst h2; exact ⟨h1, tow_new W, (Ext.refl W).alloc _⟩
        have CP : Hid (∀ W lb, Ext w W → w.heap.size ≤ lb → Tow W lb [] → Calls Tryz.prog 38 #[.pointer (some ⟨lb, 0, none⟩), .slice ao l.length cap] W fun e w' => e = .returned (.tuple #[]) ∧ ∃ ms, Tow w' lb ms ∧ ms.map Nd.e = putsE [] l ∧ ms.length ≤ 4 ∧ Ext w w') := fun W lb hx hlb hT => by
          refine (putAll_any lb [] ao cap l W hT (by simp; omega) (h.glob.ext hx) (by have := h.glob.lt; simp; omega) (hes.ext hx) (fun p e => by have := hlt p e; simp; omega)).mono ?_
          rintro e w' ⟨rfl, ms, h1, h2, h3, h4, _⟩
          exact ⟨rfl, ms, h1, by simpa using h2, by simp at h3; omega, h4.ext hx (fun y hy => by simp at hy; omega)⟩
        have CA : Hid (∀ W lb ms, Tow W lb ms → ms.length ≤ 4 → Calls Tryz.prog 42 #[.pointer (some ⟨lb, 0, none⟩)] W fun e w' => ∃ v, e = .returned v ∧ Lst W w' v (ms.map Nd.e)) := fun W lb ms h1 h2 => tall_any lb ms W h1 (by omega)
        have hfew := hI.few
        have hfew' := hI.few'
        have hhl : x.ns.length ≤ 40 := by have := hI.hand.2.2; simp at this; omega
        have CR : Hid (∀ W co cc, Ext w W → (putsE [] l).length ≤ cc → (putsE [] l).length ≤ 4 → EntsAt W co (putsE [] l) → (∀ a, co = some a → ∃ cs, Blk W a.block cs 49) → Calls Tryz.prog 41 #[.pointer (some ⟨sb, 0, none⟩), .slice co (putsE [] l).length cc] W fun e w' => ∃ v, e = .returned (.tuple #[v, .nilIface]) ∧ RetE W w' v (afterE (rowsE (x.ns.map Nd.e) N O) l)) := fun W co cc hx h1 h2 h3 h5 => by
          have := rowsWith_any W S sb cb M m a x N O co cc (putsE [] l) (h.ext hx) hI.nst.up hI.nw hI.od hI.tn hI.told (by omega) hhl h1 (by omega) (Ris.nil.puts l) h3 h5
          rw [rows_with l] at this
          exact this
        have HF : Hid (writeF (rowsE (x.ns.map Nd.e) N O) l = if 40 < (afterE (rowsE (x.ns.map Nd.e) N O) l).length then 8 else 0) := by
          rw [Hid]; unfold writeF; rw [if_neg (by omega), if_neg (by simp [hb])]
        have HPL : Hid ((putsE [] l).length ≤ 4) := by have := puts_len [] l; rw [Hid]; simp at this; omega
        rw [HF.out]
        clear h hI hes hlt HF CB hb h0 h4 hfew hfew' hhl
        generalize afterE (rowsE (x.ns.map Nd.e) N O) l = af at *
        generalize hpl : putsE [] l = pl at *
        clear hpl
        generalize txt (bytesT l).1 = tx at *
        by_cases h40 : 40 < af.length
        · rw [if_pos h40]
          have h40' : (40 : Int) < (af.length : Int) := by omega
          clear h40
          go_enter Tryz.func15, Tryz.ntmps15
          go_wp2_with (first
            | (go_at_call 40; refine CB2.out.mono ?_; rintro e w1 ⟨rfl, hx1⟩)
            | (go_at_call 36; refine (CN.out _).mono ?_; rintro e w2 ⟨rfl, ht2, hx2⟩)
            | (go_at_call 38; refine (CP.out _ _ (hx1.trans hx2) hx1.size ht2).mono ?_; rintro e w3 ⟨rfl, ms, ht3, hm3, hl3, hx3⟩; have HM3 : Hid (ms.map Nd.e = pl) := hm3; clear hm3)
            | (go_at_call 42; refine (CA.out _ _ ms ht3 hl3).mono ?_; rintro e w4 ⟨v4, rfl, hL4⟩; rw [HM3.out] at hL4; have hR4 := hL4.retE (Ext.refl w3); obtain ⟨ao4, c4, hv4, hc4, he4, hb4, hx4⟩ := hR4; subst hv4; clear hL4)
            | (go_at_call 41; refine (CR.out _ ao4 c4 (hx3.trans hx4) hc4 HPL.out he4 (fun a e => (hb4 a e).2)).mono ?_; rintro e w5 ⟨v5, rfl, hR5⟩; obtain ⟨ao5, c5, hv5, _, _, _, hx5⟩ := hR5; subst hv5))
          go_ret
          exact ⟨rfl, (hx3.trans hx4).trans hx5⟩
        · rw [if_neg h40]
          have h40' : ¬ (40 : Int) < (af.length : Int) := by omega
          clear h40
          go_enter Tryz.func15, Tryz.ntmps15
          go_wp2_with (first
            | (go_at_call 40; refine CB2.out.mono ?_; rintro e w1 ⟨rfl, hx1⟩)
            | (go_at_call 36; refine (CN.out _).mono ?_; rintro e w2 ⟨rfl, ht2, hx2⟩)
            | (go_at_call 38; refine (CP.out _ _ (hx1.trans hx2) hx1.size ht2).mono ?_; rintro e w3 ⟨rfl, ms, ht3, hm3, hl3, hx3⟩; have HM3 : Hid (ms.map Nd.e = pl) := hm3; clear hm3)
            | (go_at_call 42; refine (CA.out _ _ ms ht3 hl3).mono ?_; rintro e w4 ⟨v4, rfl, hL4⟩; rw [HM3.out] at hL4; have hR4 := hL4.retE (Ext.refl w3); obtain ⟨ao4, c4, hv4, hc4, he4, hb4, hx4⟩ := hR4; subst hv4; clear hL4)
            | (go_at_call 41; refine (CR.out _ ao4 c4 (hx3.trans hx4) hc4 HPL.out he4 (fun a e => (hb4 a e).2)).mono ?_; rintro e w5 ⟨v5, rfl, hR5⟩; obtain ⟨ao5, c5, hv5, _, _, _, hx5⟩ := hR5; subst hv5))
          go_ret
          exact ⟨rfl, (hx3.trans hx4).trans hx5⟩
      · have HF : Hid (writeF (rowsE (x.ns.map Nd.e) N O) l = (bytesT l).2) := by rw [Hid]; unfold writeF; rw [if_neg (by omega), if_pos hb]
        have HE : Hid (errV (bytesT l).2 = .iface 88 (.int .i64 (bytesT l).2)) := by unfold errV Hid; rw [if_neg hb]
        have CB2 : Hid (Calls Tryz.prog 40 #[.slice ao l.length cap] w fun e w' => e = .returned (.tuple #[.string (txt (bytesT l).1), .iface 88 (.int .i64 (bytesT l).2)]) ∧ Ext w w') := by
          rw [HE.out] at CB; exact CB
        rw [HF.out, HE.out]
        clear h hI hes hlt HF HE CB hb h0 h4
        generalize txt (bytesT l).1 = tx at *
        generalize (bytesT l).2 = f at *
        generalize l.length = ll at *
        go_enter Tryz.func15, Tryz.ntmps15
        go_wp2_with (go_at_call 40; refine CB2.out.mono ?_; rintro e w1 ⟨rfl, hx1⟩)
        go_ret
        exact ⟨rfl, hx1⟩
end Go.Proofs.YtjeinblcpejpnabGreatDoor
