/- Tables: a block that holds a table, in plain words. -/
import Derived.Test.YtjeinblcpejpnaaTabI
import Derived.Test.YtjeinblcpejpnaaLstM
namespace Go.Proofs.Ytjeinblcpejpnaa
open Go.RowKit Go.WideShapes

theorem tabS_ris : ∀ (es : List Ent) (p : Option Ent), tabS p es = 0 → Ris es ∧ ∀ q, p = some q → ∀ e ∈ es, Lt q.key e.key
  | [], p, _ => ⟨Ris.nil, fun _ _ e he => by cases he⟩
  | x :: xs, p, h => by
    unfold tabS at h
    by_cases h1 : faultB x.key x.val x.gone = 0
    · rw [if_neg (by simp [h1])] at h
      split at h
      · cases h
      · rename_i hn
        obtain ⟨hr, hx⟩ := tabS_ris xs (some x) h
        have hx' := hx x rfl
        refine ⟨hr.cons hx', fun q hq e he => ?_⟩
        subst hq
        have hqx : Lt q.key x.key := by
          unfold notUp at hn
          rcases Lt.tri q.key x.key with h | h | h
          · exact h
          · simp [h] at hn
          · simp [h.less] at hn
        rcases List.mem_cons.1 he with rfl | he'
        · exact hqx
        · exact hqx.trans (hx' e he')
    · rw [if_pos h1] at h; exact absurd h h1
theorem tabF_ris {es : List Ent} (h : tabF es = 0) : Ris es := (tabS_ris es none (tabF_zero h).2.2).1
theorem tabF_fault {es : List Ent} (h : tabF es = 0) : ∀ e ∈ es, faultE e = 0 := fun e he => tabS_keys es none (tabF_zero h).2.2 e he
theorem faultsE_of : ∀ (es : List Ent), (∀ e ∈ es, faultE e = 0) → faultsE es = 0
  | [], _ => rfl
  | x :: xs, h => by
    unfold faultsE
    rw [if_pos (h x (List.mem_cons_self ..))]
    exact faultsE_of xs (fun e he => h e (List.mem_cons_of_mem _ he))
theorem encE_le {e : Ent} (h : faultE e = 0) : (encE e).length ≤ 27 := by
  obtain ⟨h1, h2⟩ := fault_zero h
  simp [encE]
  have e1 : e.key.data.size = e.key.size := rfl
  have e2 : e.val.data.size = e.val.size := rfl
  omega
theorem flat_le : ∀ (es : List Ent), (∀ e ∈ es, faultE e = 0) → (es.flatMap encE).length ≤ 27 * es.length
  | [], _ => by simp
  | x :: xs, h => by
    have h1 := encE_le (h x (List.mem_cons_self ..))
    have h2 := flat_le xs (fun e he => h e (List.mem_cons_of_mem _ he))
    rw [List.flatMap_cons, List.length_append, List.length_cons]
    omega
theorem bytesT_part {es : List Ent} (h : ∀ e ∈ es, faultE e = 0) (hl : es.length ≤ 2) : bytesT es = (encT es, 0) := by
  unfold bytesT
  rw [if_neg (by simp [faultsE_of es h]), if_neg]
  have := flat_le es h
  simp [encT] at *
  omega
/-- Block b of chip M holds the table of es. -/
structure TabAt (M : CM) (b : Nat) (es : List Ent) : Prop where
  ok : tabF es = 0
  lt : b < 24
  pg : M.pg b = Pg.whole (padD (headT es)) :: (partsE 2 es).map (fun p => Pg.whole (padD (txt (encT p))))
theorem part_mem {n : Nat} {es : List Ent} {k : Nat} {e : Ent} (h : e ∈ partE n es k) : e ∈ es := List.mem_of_mem_drop (List.mem_of_mem_take h)
theorem parts_len (es : List Ent) : (partsE 2 es).length = (es.length + 1) / 2 := by simp [partsE, partsN]
theorem parts_get (es : List Ent) (k : Nat) (hk : k < (es.length + 1) / 2) : (partsE 2 es)[k]? = some (partE 2 es k) := by
  have hk' : k < partsN 2 es.length := hk
  simp [partsE, hk']
theorem TabAt.page {M : CM} {b : Nat} {es : List Ent} (h : TabAt M b es) (hp : M.pend = none) (k : Nat) (hk : k < (es.length + 1) / 2) : pageE M (b : Int) ((k + 1 : Nat) : Int) = (partE 2 es k, 0) := by
  have h14 := (tabF_zero h.ok).2.1
  have hlt := h.lt
  have hr : readR M (b : Int) ((k + 1 : Nat) : Int) = (padD (txt (encT (partE 2 es k))), 0) := by
    unfold readR downB
    rw [hp]
    rw [if_neg (by simp), if_pos ⟨by omega, by omega, by omega, by omega⟩]
    simp only [Int.toNat_natCast, h.pg, List.getElem?_cons_succ, List.getElem?_map, parts_get es k hk, Option.map_some]
  unfold pageE
  rw [hr]
  simp only [if_true]
  have hf : ∀ e ∈ partE 2 es k, faultE e = 0 := fun e he => tabF_fault h.ok e (part_mem he)
  have hl : (partE 2 es k).length ≤ 2 := by rw [partE_len]; unfold partL; omega
  have hT : parseT (txtL (padD (txt (encT (partE 2 es k))))) = some (partE 2 es k) := by
    have := parse_encT (partE 2 es k) (64 - (txt (encT (partE 2 es k))).size) hf (by omega)
    unfold padD txtL
    unfold txt at this ⊢
    simpa using this
  unfold entsT
  rw [hT]
theorem TabAt.blank {M : CM} {b : Nat} {es : List Ent} (h : TabAt M b es) (hp : M.pend = none) (p : Nat) (hk : (es.length + 1) / 2 < p) (h8 : p < 8) : pageE M (b : Int) (p : Int) = ([], 5) := by
  have hlt := h.lt
  have hr : readR M (b : Int) (p : Int) = ([], 5) := by
    unfold readR downB
    rw [hp]
    rw [if_neg (by simp), if_pos ⟨by omega, by omega, by omega, by omega⟩]
    have : (M.pg b)[p]? = none := by
      rw [h.pg]; apply List.getElem?_eq_none; simp [parts_len]; omega
    simp only [Int.toNat_natCast, this]
  unfold pageE
  rw [hr]
  rfl
theorem headN_byteN (f : Nat) (d : List UInt8) (h : ∀ i, i < 8 → d.getD (1 + i) 0 = byteN f i) : ∀ k, k ≤ 8 → headN d k = f % 256 ^ k := by
  intro k
  induction k with
  | zero => intro _; simp [headN, Nat.mod_one]
  | succ k ih =>
    intro hk
    have := ih (by omega)
    unfold headN
    rw [this]
    have hb : bytA d (1 + k) = f / 256 ^ k % 256 := by
      unfold bytA
      rw [h k (by omega)]
      unfold byteN
      simp
    rw [hb, Nat.pow_succ, Nat.mod_mul]
    rw [Nat.mul_comm]
theorem TabAt.head {M : CM} {b : Nat} {es : List Ent} (h : TabAt M b es) (hp : M.pend = none) : headR M (b : Int) = (filterN (keysE es), 0) := by
  have hlt := h.lt
  have hr : readR M (b : Int) 0 = (padD (headT es), 0) := by
    unfold readR downB
    rw [hp]
    rw [if_neg (by simp), if_pos ⟨by omega, by omega, by omega, by omega⟩]
    simp only [Int.toNat_natCast, h.pg]
    rfl
  have hd : padD (headT es) = headB (filterN (keysE es)) 8 ++ List.replicate 55 0 := by
    unfold padD
    rw [headT_size]
    rfl
  unfold headR
  rw [hr]
  have h0 : bytA (padD (headT es)) 0 = 70 := by rw [hd]; rfl
  rw [if_neg (by simp), if_neg (by simp [h0])]
  have := headN_byteN (filterN (keysE es)) (padD (headT es)) (fun i hi => by
    rw [hd]
    simp only [headB, List.getD_eq_getElem?_getD]
    rw [Nat.add_comm 1 i, List.cons_append, List.getElem?_cons_succ, List.getElem?_append_left (by simp; omega)]
    simp [hi]) 8 (by omega)
  have hf := filterN_lt (keysE es)
  simp only
  rw [this, Nat.mod_eq_of_lt (by omega)]
theorem parts_flat (n : Nat) (es : List Ent) : ∀ k, ((List.range k).map (partE n es)).flatten = es.take (k * n)
  | 0 => by simp
  | k + 1 => by
    rw [List.range_succ, List.map_append, List.flatten_append, parts_flat n es k, Nat.succ_mul, List.take_add]
    simp [partE]
theorem TabAt.goA {M : CM} {b : Nat} {es : List Ent} (h : TabAt M b es) (hp : M.pend = none) : ∀ (r : Nat), r ≤ 7 → goA M (b : Int) (es.take ((7 - r) * 2)) r = (es, 0) := by
  have hz := tabF_zero h.ok
  intro r
  induction r with
  | zero =>
    intro _
    unfold Go.Proofs.Ytjeinblcpejpnaa.goA
    rw [List.take_of_length_le (by omega)]
    simp [h.ok]
  | succ r ih =>
    intro hr
    have ih' := ih (by omega)
    rw [goA_succ]
    rw [show (8 - (r + 1) : Nat) = 7 - r by omega]
    by_cases hk : 7 - (r + 1) < (es.length + 1) / 2
    · have hpg := h.page hp (7 - (r + 1)) hk
      rw [show 7 - (r + 1) + 1 = 7 - r by omega] at hpg
      rw [hpg]
      rw [if_neg (by simp), if_neg (by simp)]
      rw [← ih']
      congr 1
      rw [show (7 - r) * 2 = (7 - (r + 1)) * 2 + 2 by omega, List.take_add]
      rfl
    · have hpg := h.blank hp (7 - r) (by omega) (by omega)
      rw [hpg]
      rw [if_pos rfl, ← ih']
      congr 1
      rw [List.take_of_length_le (by omega), List.take_of_length_le (by omega)]
theorem TabAt.all {M : CM} {b : Nat} {es : List Ent} (h : TabAt M b es) (hp : M.pend = none) : allR M (b : Int) = (es, 0) := by
  unfold allR
  rw [h.head hp, if_neg (by simp)]
  exact h.goA hp 7 (by omega)
end Go.Proofs.Ytjeinblcpejpnaa
