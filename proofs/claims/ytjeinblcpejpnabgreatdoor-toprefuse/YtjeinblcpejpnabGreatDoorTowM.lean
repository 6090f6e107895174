/- StoN TowM. -/
import Derived.Test.YtjeinblcpejpnabGreatDoorStoM
import Derived.Test.YtjeinblcpejpnabGreatDoorLstM

/- A store in plain words: a block is erased, a table is written, with falls; tables are laid. -/
namespace Go.Proofs.YtjeinblcpejpnabGreatDoor
open Go.RowKit

/-- Pages are laid in block b alone. -/
structure LayB (b : Nat) (M M' : CM) : Prop where
  pg : ∀ c, ¬ c = b → M'.pg c = M.pg c
  wk : M'.wk = M.wk
  bd : M'.bd = M.bd
  wr : M'.wr = M.wr
  left : M.left < 0 → M'.left = M.left
  leq : ∀ n, M.left ≤ n → 0 ≤ n → M'.left ≤ n
theorem LayB.refl (b : Nat) (M : CM) : LayB b M M := ⟨fun _ _ => rfl, rfl, rfl, rfl, fun _ => rfl, fun _ h _ => h⟩
theorem LayB.trans {b : Nat} {M M' M'' : CM} (h : LayB b M M') (k : LayB b M' M'') : LayB b M M'' :=
  ⟨fun c hc => (k.pg c hc).trans (h.pg c hc), k.wk.trans h.wk, k.bd.trans h.bd, k.wr.trans h.wr, fun hl => by rw [k.left (by rw [h.left hl]; exact hl), h.left hl], fun n h1 h2 => k.leq n (h.leq n h1 h2) h2⟩
theorem Stp.lay {b : Nat} {M M' M'' : CM} (h : Stp b M M') (k : LayB b M' M'') : Stp b M M'' :=
  ⟨fun c hc => (k.pg c hc).trans (h.pg c hc), k.wk.trans h.wk, k.bd.trans h.bd, fun c => by rw [k.wr]; exact h.wr c, fun hl => by rw [k.left (by rw [h.left hl]; exact hl), h.left hl], fun n h1 h2 => k.leq n (h.leq n h1 h2) h2⟩
theorem tick_leq (M : CM) : ∀ n, M.left ≤ n → 0 ≤ n → (tickM M).left ≤ n := fun n h1 h2 => by
  rcases tick_left M with h | h <;> omega
theorem tick_keep {M : CM} (h : M.left < 0) : (tickM M).left = M.left := by rw [tick_neg h]
theorem layB_pend (b : Nat) (M : CM) (p : Option Pend) : LayB b M { M with pend := p } := ⟨fun _ _ => rfl, rfl, rfl, rfl, fun _ => rfl, fun _ h _ => h⟩
theorem layB_page (b : Nat) (M : CM) (p : Pg) : LayB b M (layM (tickM M) b p) :=
  ⟨fun c hc => by show upd (tickM M).pg b _ c = _; rw [upd_other _ _ _ hc, tick_pg], tick_wk M, tick_bd M, tick_wr M, fun h => tick_keep h, tick_leq M⟩
theorem LayB.stp {b : Nat} {M M' : CM} (h : LayB b M M') : Stp b M M' := ⟨h.pg, h.wk, h.bd, fun c => by rw [h.wr]; omega, h.left, h.leq⟩
theorem stp_wipe (b : Nat) (M : CM) (l : List Pg) : Stp b M (wipeM (tickM M) b l) :=
  ⟨fun c hc => by show upd (tickM M).pg b _ c = _; rw [upd_other _ _ _ hc, tick_pg], tick_wk M, tick_bd M, fun c => by
    show upd (tickM M).wr b _ c ≤ _
    by_cases e : c = b
    · subst e; rw [upd_same, tick_wr, if_pos rfl]; omega
    · rw [upd_other _ _ _ e, tick_wr]; omega, fun h => tick_keep h, tick_leq M⟩

def rdErase (M : CM) (b : Nat) : CM × Int := (eraseM M (b : Int), eraseE M (b : Int))
def rdTab (es : List Ent) (M : CM) (b : Nat) : CM × Int := writeT M (b : Int) es
theorem erase_weak {M : CM} {b : Nat} (hp : M.pend = none) (hb : b < 24) (hbd : M.bd b = false) (hw : M.wk b = true) : eraseE M (b : Int) = 7 ∧ eraseM M (b : Int) = { M with bd := upd M.bd b true } := by
  have hr := ready_nst hp hb hbd
  have : (b : Int).toNat = b := by omega
  constructor
  · unfold eraseE
    rw [if_neg (by simp [hr]), this, if_pos hw]
  · unfold eraseM
    rw [if_neg (by simp [hr]), this, if_pos hw]
theorem rdErase_ok : RdOk rdErase (fun M b => M.pg b = []) := by
  refine ⟨fun M M' b h1 h2 => by rw [h1]; exact h2, fun M b hp hb hbd hw => ?_, fun M b hp hb hbd hw => ?_⟩
  · unfold rdErase; rw [(erase_weak hp hb hbd hw).1, (erase_weak hp hb hbd hw).2]
  · obtain ⟨h1, h2⟩ := erase_nst hp hb hbd hw
    unfold rdErase
    rw [h1, h2]
    by_cases hl : M.left = 0
    · rw [if_pos hl, if_pos hl]
      exact ⟨(layB_pend b M _).stp, .inr ⟨rfl, by omega, _, rfl, rfl⟩⟩
    · rw [if_neg hl, if_neg hl]
      refine ⟨stp_wipe b M [], .inl ⟨rfl, ?_, ?_⟩⟩
      · show (tickM M).pend = none; rw [tick_pend]; exact hp
      · show upd (tickM M).pg b [] b = []; exact upd_same _ _ _
/-- Pages are written, one behind the other, till the machine falls. -/
theorem goW_gen {b : Nat} (hb : b < 24) : ∀ (ps : List (List Ent)) (M : CM), M.pend = none → M.bd b = false → M.wk b = false → (M.pg b).length + ps.length ≤ 8 → (∀ p ∈ ps, bytesT p = (encT p, 0) ∧ (encT p).length ≤ 64) →
    LayB b M (goW (b : Int) M ps).1 ∧ (((goW (b : Int) M ps).2 = 0 ∧ (goW (b : Int) M ps).1.pend = none ∧ (goW (b : Int) M ps).1.pg b = M.pg b ++ ps.map (fun p => Pg.whole (padD (txt (encT p))))) ∨
      ((goW (b : Int) M ps).2 = 9 ∧ ¬ M.left < 0 ∧ ∃ p, (goW (b : Int) M ps).1.pend = some p ∧ pendB p = b))
  | [], M, hp, _, _, _, _ => ⟨LayB.refl b M, .inl ⟨rfl, hp, by simp [goW]⟩⟩
  | p :: ps, M, hp, hbd, hwk, hl, hP => by
    obtain ⟨hb1, hb2⟩ := hP p (List.mem_cons_self ..)
    have hs : (txt (encT p)).size ≤ 64 := by
      have : (txt (encT p)).size = (encT p).length := by simp [txt, ByteArray.size]
      omega
    simp only [List.length_cons] at hl
    obtain ⟨h1, h2⟩ := write_nst (s := txt (encT p)) hp hb hbd hwk hs (by omega)
    have hg : goW (b : Int) M (p :: ps) = if ¬ writeE M (b : Int) (txt (encT p)) = 0 then (writeM M (b : Int) (txt (encT p)), writeE M (b : Int) (txt (encT p))) else goW (b : Int) (writeM M (b : Int) (txt (encT p))) ps := by
      simp only [goW, hb1]; rw [if_neg (by simp)]
    rw [hg, h1, h2]
    by_cases h0 : M.left = 0
    · rw [if_pos h0, if_pos h0, if_pos (by simp)]
      exact ⟨layB_pend b M _, .inr ⟨rfl, by omega, _, rfl, rfl⟩⟩
    · rw [if_neg h0, if_neg h0, if_neg (by simp)]
      have hpg : (layM (tickM M) b (.whole (padD (txt (encT p))))).pg b = M.pg b ++ [.whole (padD (txt (encT p)))] := by
        show upd (tickM M).pg b _ b = _
        rw [upd_same, tick_pg]
      have hL := layB_page b M (.whole (padD (txt (encT p))))
      have hpn : (layM (tickM M) b (.whole (padD (txt (encT p))))).pend = none := by show (tickM M).pend = none; rw [tick_pend]; exact hp
      obtain ⟨k1, k2⟩ := goW_gen hb ps (layM (tickM M) b (.whole (padD (txt (encT p))))) hpn (by rw [hL.bd]; exact hbd) (by rw [hL.wk]; exact hwk) (by rw [hpg]; simp; omega) (fun q hq => hP q (List.mem_cons_of_mem _ hq))
      refine ⟨hL.trans k1, ?_⟩
      rcases k2 with ⟨k3, k4, k5⟩ | ⟨k3, k4, k5⟩
      · refine .inl ⟨k3, k4, ?_⟩
        rw [k5, hpg]; simp
      · refine .inr ⟨k3, fun hn => k4 ?_, k5⟩
        rw [hL.left hn]; exact hn
theorem rdTab_ok {es : List Ent} (hz : tabF es = 0) : RdOk (rdTab es) (fun M b => TabAt M b es) := by
  refine ⟨fun M M' b h1 h2 => ⟨h2.ok, h2.lt, by rw [h1]; exact h2.pg⟩, fun M b hp hb hbd hw => ?_, fun M b hp hb hbd hw => ?_⟩
  · unfold rdTab writeT
    obtain ⟨h1, h2⟩ := erase_weak hp hb hbd hw
    rw [if_neg (by simp [hz]), if_pos (by rw [h1]; simp), h1, h2]
  · obtain ⟨h1, h2⟩ := erase_nst hp hb hbd hw
    unfold rdTab writeT
    rw [if_neg (by simp [hz]), h1, h2]
    by_cases hl : M.left = 0
    · rw [if_pos hl, if_pos hl, if_pos (by simp)]
      exact ⟨(layB_pend b M _).stp, .inr ⟨rfl, by omega, _, rfl, rfl⟩⟩
    · rw [if_neg hl, if_neg hl, if_neg (by simp)]
      have hS := stp_wipe b M []
      have hpn : (wipeM (tickM M) b []).pend = none := by show (tickM M).pend = none; rw [tick_pend]; exact hp
      have hpg : (wipeM (tickM M) b []).pg b = [] := upd_same _ _ _
      have hneg : (wipeM (tickM M) b []).left < 0 ↔ M.left < 0 := by
        show (tickM M).left < 0 ↔ _
        unfold tickM; split
        · rename_i h; simp only; omega
        · rfl
      generalize hM1 : wipeM (tickM M) b [] = M1 at *
      have hbd1 : M1.bd b = false := by rw [hS.bd]; exact hbd
      have hwk1 : M1.wk b = false := by rw [hS.wk]; exact hw
      obtain ⟨h3, h4⟩ := write_nst (s := headT es) hpn hb hbd1 hwk1 (by rw [headT_size]; omega) (by rw [hpg]; simp)
      rw [h3, h4]
      by_cases hl1 : M1.left = 0
      · rw [if_pos hl1, if_pos hl1, if_pos (by simp)]
        exact ⟨hS.lay (layB_pend b M1 _), .inr ⟨rfl, by rw [← hneg]; omega, _, rfl, rfl⟩⟩
      · rw [if_neg hl1, if_neg hl1, if_neg (by simp)]
        have hL := layB_page b M1 (.whole (padD (headT es)))
        have hpg2 : (layM (tickM M1) b (.whole (padD (headT es)))).pg b = [.whole (padD (headT es))] := by
          show upd (tickM M1).pg b _ b = _
          rw [upd_same, tick_pg, hpg]; rfl
        have hpn2 : (layM (tickM M1) b (.whole (padD (headT es)))).pend = none := by show (tickM M1).pend = none; rw [tick_pend]; exact hpn
        obtain ⟨h0, h14, _⟩ := tabF_zero hz
        have hpl : (partsE 2 es).length ≤ 7 := by rw [parts_len]; omega
        obtain ⟨k1, k2⟩ := goW_gen hb (partsE 2 es) (layM (tickM M1) b (.whole (padD (headT es)))) hpn2 (by rw [hL.bd]; exact hbd1) (by rw [hL.wk]; exact hwk1) (by rw [hpg2]; simp; omega) (fun p hp' => by
          obtain ⟨k, hk, rfl⟩ := List.mem_map.1 hp'
          have hf : ∀ e ∈ partE 2 es k, faultE e = 0 := fun e he => tabF_fault hz e (part_mem he)
          have h2 : (partE 2 es k).length ≤ 2 := by unfold partE; simp; omega
          exact ⟨bytesT_part hf h2, encT_le hf h2⟩)
        refine ⟨(hS.lay hL).lay k1, ?_⟩
        rcases k2 with ⟨k3, k4, k5⟩ | ⟨k3, k4, k5⟩
        · refine .inl ⟨k3, k4, hz, hb, ?_⟩
          rw [k5, hpg2]; rfl
        · refine .inr ⟨k3, fun hn => k4 ?_, k5⟩
          have := hneg.2 hn
          rw [hL.left this]; exact this
/-- Lists are laid, a table each. -/
inductive Laid (M : CM) (L : List Int) : List (List Ent) → CM → List Int → List Nat → Prop
  | nil : Laid M L [] M L []
  | snoc {M1 M2 : CM} {L1 L2 : List Int} {ps : List (List Ent)} {p : List Ent} {bs : List Nat} {b : Nat} (h : Laid M L ps M1 L1 bs) (k : Claimed (rdTab p) M1 L1 M2 L2 b 0) : Laid M L (ps ++ [p]) M2 L2 (bs ++ [b])
/-- What has been laid. -/
structure LaidOk (M : CM) (L : List Int) (ps : List (List Ent)) (M' : CM) (L' : List Int) (bs : List Nat) : Prop where
  adv : Adv L M L' M'
  up : M'.pend = none
  bw : ∀ b, M'.bd b = true → M'.wk b = true
  len : bs.length = ps.length
  tab : ∀ (i : Nat) b p, bs[i]? = some b → ps[i]? = some p → TabAt M' b p
  at_ : ∀ b ∈ bs, 2 ≤ b ∧ b < 24 ∧ (b : Int) ∉ L ∧ (b : Int) ∈ L'
  nodup : bs.Nodup
  good : goodN M.wk L ≤ goodN M.wk L' + ps.length
  nb : ∀ b ∈ bs, M.bd b = false
theorem Laid.ok {M M' : CM} {L L' : List Int} {ps : List (List Ent)} {bs : List Nat} (h : Laid M L ps M' L' bs) :
    M.pend = none → (∀ b, M.bd b = true → M.wk b = true) → (∀ p ∈ ps, tabF p = 0) → LaidOk M L ps M' L' bs := by
  induction h with
  | nil => intro hp hb _; exact ⟨Adv.refl _ _, hp, hb, rfl, fun i b p h => by simp at h, fun b h => by simp at h, List.nodup_nil, by simp, fun b h => by simp at h⟩
  | @snoc M1 M2 L1 L2 ps p bs b h k ih =>
    intro hp hb hz
    have I := ih hp hb (fun q hq => hz q (List.mem_append_left _ hq))
    have C := k.ok (rdTab_ok (hz p (by simp))) I.up I.bw
    obtain ⟨_, c1, c2, c3, c4, c5, c6, c7, c8, c9⟩ | ⟨c, _⟩ | ⟨c, _⟩ := C.end_
    · have hwk : M1.wk = M.wk := I.adv.wk
      refine ⟨I.adv.trans C.adv, c5, fun b hb => ?_, by simp [I.len], fun i b' q h1 h2 => ?_, fun b' hb' => ?_, ?_, ?_, fun b' hb' => ?_⟩
      · rcases C.adv.bw b hb with h | h
        · rw [C.adv.wk]; exact I.bw b h
        · rw [C.adv.wk]; exact h
      · rcases Nat.lt_or_ge i bs.length with hi | hi
        · rw [List.getElem?_append_left hi] at h1
          rw [List.getElem?_append_left (by rw [← I.len]; exact hi)] at h2
          have ht := I.tab i b' q h1 h2
          have hm := (I.at_ b' (List.mem_of_getElem? h1)).2.2.2
          exact ⟨ht.ok, ht.lt, by rw [C.adv.pg b' hm]; exact ht.pg⟩
        · have hi2 : i = bs.length := by
            have := (List.getElem?_eq_some_iff.1 h1).1
            simp at this; omega
          subst hi2
          rw [List.getElem?_concat_length] at h1
          rw [I.len, List.getElem?_concat_length] at h2
          cases h1; cases h2
          exact c6
      · rcases List.mem_append.1 hb' with h' | h'
        · obtain ⟨a1, a2, a3, a4⟩ := I.at_ b' h'
          exact ⟨a1, a2, a3, C.adv.mono _ a4⟩
        · simp at h'; subst h'
          exact ⟨c1, c2, fun hh => c3 (I.adv.mono _ hh), c4⟩
      · rw [List.nodup_append]
        refine ⟨I.nodup, by simp, fun x hx y hy => ?_⟩
        simp at hy; subst hy
        intro e; subst e
        exact c3 (I.at_ x hx).2.2.2
      · have := I.good
        rw [hwk] at c9
        simp; omega
      · rcases List.mem_append.1 hb' with h' | h'
        · exact I.nb b' h'
        · simp at h'; subst h'
          cases hh : M.bd b' with
          | false => rfl
          | true => have := C.adv.bd b' (I.adv.bd b' hh); rw [c8] at this; cases this
    · cases c
    · cases c
end Go.Proofs.YtjeinblcpejpnabGreatDoor

/- Towers: nodes, floors, links. -/
namespace Go.Proofs.YtjeinblcpejpnabGreatDoor
open Go.RowKit

/-- A node: its block, its entry, how high it is. -/
structure Nd where
  b : Nat
  e : Ent
  h : Nat
/-- The nodes of a floor. -/
def flo (f : Nat) (ns : List Nd) : List Nat := (ns.filter (fun n => decide (f < n.h))).map Nd.b
theorem flo_app (f : Nat) (a b : List Nd) : flo f (a ++ b) = flo f a ++ flo f b := by simp [flo]
theorem flo_cons (f : Nat) (n : Nd) (r : List Nd) : flo f (n :: r) = if f < n.h then n.b :: flo f r else flo f r := by
  unfold flo; by_cases h : f < n.h <;> simp [h]
theorem flo_mem {f c : Nat} {ns : List Nd} (h : c ∈ flo f ns) : ∃ n ∈ ns, n.b = c ∧ f < n.h := by
  unfold flo at h
  obtain ⟨n, hn, rfl⟩ := List.mem_map.1 h
  have := List.mem_filter.1 hn
  exact ⟨n, this.1, rfl, by simpa using this.2⟩
theorem flo_sub {f : Nat} {ns : List Nd} : (flo f ns).Sublist (ns.map Nd.b) := List.Sublist.map _ List.filter_sublist
theorem flo_zero {ns : List Nd} (h : ∀ n ∈ ns, 1 ≤ n.h) : flo 0 ns = ns.map Nd.b := by
  unfold flo; congr 1; rw [List.filter_eq_self]; intro n hn; have := h n hn; simp; omega
/-- From a, by links, through a list to the end. -/
def LL (L : Nat → Option Nat) : Nat → List Nat → Prop
  | a, [] => L a = none
  | a, b :: r => L a = some b ∧ LL L b r
/-- The last one of a list, or a. -/
def lst : Nat → List Nat → Nat
  | a, [] => a
  | _, b :: r => lst b r
theorem lst_mem (a : Nat) (p : List Nat) : lst a p ∈ a :: p := by
  induction p generalizing a with
  | nil => simp [lst]
  | cons b r ih => have := ih b; simp only [lst]; exact List.mem_cons_of_mem _ this
theorem lst_app (a c : Nat) (p : List Nat) : lst a (p ++ [c]) = c := by
  induction p generalizing a with
  | nil => rfl
  | cons b r ih => exact ih b
theorem lst_ne (a c : Nat) (p : List Nat) (h : p ≠ []) : lst a p = lst c p := by
  cases p with
  | nil => exact absurd rfl h
  | cons b r => rfl
theorem LL.to {L : Nat → Option Nat} {a : Nat} {p q : List Nat} (h : LL L a (p ++ q)) : LL L (lst a p) q := by
  induction p generalizing a with
  | nil => exact h
  | cons b r ih => exact ih h.2
theorem LL.head {L : Nat → Option Nat} {a : Nat} {q : List Nat} (h : LL L a q) : L a = q.head? := by
  cases q with
  | nil => exact h
  | cons b r => exact h.1
theorem LL.congr {L M : Nat → Option Nat} {a : Nat} {q : List Nat} (h : LL L a q) (hc : ∀ c ∈ a :: q, M c = L c) : LL M a q := by
  induction q generalizing a with
  | nil => show M a = none; rw [hc a (by simp)]; exact h
  | cons b r ih => exact ⟨by rw [hc a (by simp)]; exact h.1, ih h.2 fun c hh => hc c (List.mem_cons_of_mem _ hh)⟩
theorem LL.upd {L M : Nat → Option Nat} {a : Nat} {p q q' : List Nat} (h : LL L a (p ++ q)) (hn : (a :: p).Nodup) (hM : ∀ c ∈ a :: p, c ≠ lst a p → M c = L c) (hq : LL M (lst a p) q') : LL M a (p ++ q') := by
  induction p generalizing a with
  | nil => exact hq
  | cons b r ih =>
    have hn' := List.nodup_cons.1 hn
    have hne : a ≠ lst a (b :: r) := by
      intro e
      have : lst b r ∈ b :: r := lst_mem b r
      exact hn'.1 (by rw [e]; exact this)
    refine ⟨?_, ih h.2 hn'.2 (fun c hc hcc => hM c (List.mem_cons_of_mem _ hc) hcc) hq⟩
    show M a = some b
    rw [hM a (by simp) hne]; exact h.1
/-- Fewer of a list: their last one is on the way of the others. -/
theorem lst_split (P Q : Nd → Bool) (hPQ : ∀ n, P n = true → Q n = true) (l : List Nd) (a : Nat) : ∃ p rest, (l.filter Q).map Nd.b = p ++ rest ∧ lst a ((l.filter P).map Nd.b) = lst a p := by
  induction l generalizing a with
  | nil => exact ⟨[], [], rfl, rfl⟩
  | cons n r ih =>
    cases hp : P n with
    | true =>
      obtain ⟨p, rest, h1, h2⟩ := ih n.b
      refine ⟨n.b :: p, rest, ?_, ?_⟩
      · rw [List.filter_cons, if_pos (hPQ n hp), List.map_cons, h1]; rfl
      · rw [List.filter_cons, if_pos hp, List.map_cons]; exact h2
    | false =>
      obtain ⟨p, rest, h1, h2⟩ := ih a
      have hf : (n :: r).filter P = r.filter P := by rw [List.filter_cons, if_neg (by simp [hp])]
      rw [hf]
      cases hq : Q n with
      | false => exact ⟨p, rest, by rw [List.filter_cons, if_neg (by simp [hq])]; exact h1, h2⟩
      | true =>
        have hg : ((n :: r).filter Q).map Nd.b = n.b :: (p ++ rest) := by rw [List.filter_cons, if_pos hq, List.map_cons, h1]
        rw [hg]
        cases p with
        | nil => exact ⟨[], n.b :: rest, rfl, h2⟩
        | cons c p => exact ⟨n.b :: c :: p, rest, rfl, h2⟩
theorem flo_split (f : Nat) (l : List Nd) (a : Nat) : ∃ p rest, flo f l = p ++ rest ∧ lst a (flo (f + 1) l) = lst a p :=
  lst_split _ _ (fun n h => by simp at *; omega) l a

/-- The nodes below a key; the others. -/
def low (k : ByteArray) (ns : List Nd) : List Nd := ns.takeWhile (fun n => decide (Lt n.e.key k))
def hig (k : ByteArray) (ns : List Nd) : List Nd := ns.dropWhile (fun n => decide (Lt n.e.key k))
theorem low_hig (k : ByteArray) (ns : List Nd) : low k ns ++ hig k ns = ns := List.takeWhile_append_dropWhile
theorem low_lt {k : ByteArray} {ns : List Nd} {n : Nd} (h : n ∈ low k ns) : Lt n.e.key k := by
  unfold low at h
  induction ns with
  | nil => simp at h
  | cons m r ih =>
    rw [List.takeWhile_cons] at h
    split at h
    · rename_i hm
      rcases List.mem_cons.1 h with rfl | h
      · simpa using hm
      · exact ih h
    · simp at h
/-- The nodes are as they should be. -/
structure TwG (lb : Nat) (ns : List Nd) : Prop where
  nodup : (lb :: ns.map Nd.b).Nodup
  hs : ∀ n ∈ ns, 1 ≤ n.h ∧ n.h ≤ 4
  ris : Ris (ns.map Nd.e)
theorem hig_ge {lb : Nat} {k : ByteArray} {ns : List Nd} (g : TwG lb ns) {n : Nd} (h : n ∈ hig k ns) : ¬ Lt n.e.key k := by
  have hr : Ris ((hig k ns).map Nd.e) := by
    have h1 : ((hig k ns).map Nd.e).Sublist (ns.map Nd.e) := List.Sublist.map _ (List.dropWhile_suffix _).sublist
    exact List.Pairwise.sublist h1 g.ris
  cases hh : hig k ns with
  | nil => rw [hh] at h; simp at h
  | cons m r =>
    have hm : ¬ Lt m.e.key k := by
      have h3 : ns.dropWhile (fun n => decide (Lt n.e.key k)) = m :: r := hh
      have := List.head?_dropWhile_not (fun n : Nd => decide (Lt n.e.key k)) ns
      rw [h3] at this
      simpa using this
    rw [hh] at h hr
    rcases List.mem_cons.1 h with rfl | h
    · exact hm
    · intro hlt
      exact hm (Lt.trans (hr.head n.e (List.mem_map.2 ⟨n, h, rfl⟩)) hlt)
/-- The last one below a key, on a floor. -/
def pr (lb : Nat) (ns : List Nd) (k : ByteArray) (f : Nat) : Nat := lst lb (flo f (low k ns))
def ptr (o : Option Nat) : Value := .pointer (o.map fun b => ⟨b, 0, none⟩)
/-- What lies in memory. -/
structure Mem (w : World) (lb : Nat) (ns : List Nd) (L : Nat → Nat → Option Nat) (many : Int) : Prop where
  head : Blk w lb #[.string ⟨#[]⟩, .string ⟨#[]⟩, .bool false, ptr (L lb 0), ptr (L lb 1), ptr (L lb 2), ptr (L lb 3), .int .i64 many] 120
  node : ∀ n ∈ ns, Blk w n.b #[.string n.e.key, .string n.e.val, .bool n.e.gone, ptr (L n.b 0), ptr (L n.b 1), ptr (L n.b 2), ptr (L n.b 3)] 118
def Chn (L : Nat → Nat → Option Nat) (lb : Nat) (ns : List Nd) : Prop := ∀ f, f < 4 → LL (fun b => L b f) lb (flo f ns)

theorem Mem.ext {w w' : World} {lb : Nat} {ns : List Nd} {L : Nat → Nat → Option Nat} {many : Int} (h : Mem w lb ns L many) (hx : Ext w w') : Mem w' lb ns L many :=
  ⟨h.head.ext hx, fun n hn => (h.node n hn).ext hx⟩
/-- The links of whoever has some: the head, or a node. -/
theorem Mem.link {w : World} {lb : Nat} {ns : List Nd} {L : Nat → Nat → Option Nat} {many : Int} (h : Mem w lb ns L many) {a f : Nat} (ha : a ∈ lb :: ns.map Nd.b) (hf : f < 4) : w.cell? ⟨a, 3 + f, none⟩ = some (ptr (L a f)) ∧ w.frozen? ⟨a, 3 + f, none⟩ = false ∧ a < w.heap.size := by
  rcases (show f = 0 ∨ f = 1 ∨ f = 2 ∨ f = 3 by omega) with rfl | rfl | rfl | rfl <;>
  · rcases List.mem_cons.1 ha with rfl | ha
    · exact ⟨by rw [h.head.cell]; rfl, h.head.free _, h.head.lt⟩
    · obtain ⟨n, hn, rfl⟩ := List.mem_map.1 ha
      exact ⟨by rw [(h.node n hn).cell]; rfl, (h.node n hn).free _, (h.node n hn).lt⟩
/-- A link is laid anew. -/
def setL (L : Nat → Nat → Option Nat) (a f : Nat) (o : Option Nat) : Nat → Nat → Option Nat := fun b g => if b = a ∧ g = f then o else L b g
theorem Mem.set {w : World} {lb : Nat} {ns : List Nd} {L : Nat → Nat → Option Nat} {many : Int} (h : Mem w lb ns L many) (hn : (lb :: ns.map Nd.b).Nodup) {a f : Nat} (hf : f < 4) (ha : a ∈ lb :: ns.map Nd.b) (o : Option Nat) :
    Mem (w.setCell ⟨a, 3 + f, none⟩ (ptr o)) lb ns (setL L a f o) many := by
  have hn' := List.nodup_cons.1 hn
  refine ⟨?_, fun n hnn => ?_⟩
  · by_cases hl : lb = a
    · subst hl
      have := h.head.set (3 + f) (ptr o)
      rcases (show f = 0 ∨ f = 1 ∨ f = 2 ∨ f = 3 by omega) with rfl | rfl | rfl | rfl <;> simpa [setL] using this
    · have := h.head.other (a := ⟨a, 3 + f, none⟩) hl (ptr o)
      simpa [setL, hl] using this
  · by_cases hl : n.b = a
    · subst hl
      have := (h.node n hnn).set (3 + f) (ptr o)
      rcases (show f = 0 ∨ f = 1 ∨ f = 2 ∨ f = 3 by omega) with rfl | rfl | rfl | rfl <;> simpa [setL] using this
    · have := (h.node n hnn).other (a := ⟨a, 3 + f, none⟩) hl (ptr o)
      simpa [setL, hl] using this
end Go.Proofs.YtjeinblcpejpnabGreatDoor
