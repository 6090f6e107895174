/- TabJ LstG TabK. -/
import Derived.Test.YtjeinblcpejpnabGreatDoorLstM
import Derived.Deep.RegionHeld3

/- Tables: a block that holds a table, in plain words. -/
namespace Go.Proofs.YtjeinblcpejpnabGreatDoor
open Go.RowKit Go.WideShapes

theorem tabS_ris : ∀ (es : List Ent) (p : Option Ent), tabS p es = 0 → Ris es ∧ ∀ q, p = some q → ∀ e ∈ es, Lt q.key e.key
  | [], p, _ => ⟨Ris.nil, fun _ _ e he => by cases he⟩
  | x :: xs, p, h => by
    unfold tabS at h
    by_cases h1 : faultB x.key x.val x.gone = 0
    · rw [if_neg (by simp [h1])] at h
      split at h
      · cases h
      · rename_i hn
        obtain ⟨hr, hx⟩ := tabS_ris xs (some x) h
        have hx' := hx x rfl
        refine ⟨hr.cons hx', fun q hq e he => ?_⟩
        subst hq
        have hqx : Lt q.key x.key := by
          unfold notUp at hn
          rcases Lt.tri q.key x.key with h | h | h
          · exact h
          · simp [h] at hn
          · simp [h.less] at hn
        rcases List.mem_cons.1 he with rfl | he'
        · exact hqx
        · exact hqx.trans (hx' e he')
    · rw [if_pos h1] at h; exact absurd h h1
theorem tabF_ris {es : List Ent} (h : tabF es = 0) : Ris es := (tabS_ris es none (tabF_zero h).2.2).1
theorem tabF_fault {es : List Ent} (h : tabF es = 0) : ∀ e ∈ es, faultE e = 0 := fun e he => tabS_keys es none (tabF_zero h).2.2 e he
theorem faultsE_of : ∀ (es : List Ent), (∀ e ∈ es, faultE e = 0) → faultsE es = 0
  | [], _ => rfl
  | x :: xs, h => by
    unfold faultsE
    rw [if_pos (h x (List.mem_cons_self ..))]
    exact faultsE_of xs (fun e he => h e (List.mem_cons_of_mem _ he))
theorem encE_le {e : Ent} (h : faultE e = 0) : (encE e).length ≤ 27 := by
  obtain ⟨h1, h2⟩ := fault_zero h
  simp [encE]
  have e1 : e.key.data.size = e.key.size := rfl
  have e2 : e.val.data.size = e.val.size := rfl
  omega
theorem flat_le : ∀ (es : List Ent), (∀ e ∈ es, faultE e = 0) → (es.flatMap encE).length ≤ 27 * es.length
  | [], _ => by simp
  | x :: xs, h => by
    have h1 := encE_le (h x (List.mem_cons_self ..))
    have h2 := flat_le xs (fun e he => h e (List.mem_cons_of_mem _ he))
    rw [List.flatMap_cons, List.length_append, List.length_cons]
    omega
theorem bytesT_part {es : List Ent} (h : ∀ e ∈ es, faultE e = 0) (hl : es.length ≤ 2) : bytesT es = (encT es, 0) := by
  unfold bytesT
  rw [if_neg (by simp [faultsE_of es h]), if_neg]
  have := flat_le es h
  simp [encT] at *
  omega
/-- Block b of chip M holds the table of es. -/
structure TabAt (M : CM) (b : Nat) (es : List Ent) : Prop where
  ok : tabF es = 0
  lt : b < 24
  pg : M.pg b = Pg.whole (padD (headT es)) :: (partsE 2 es).map (fun p => Pg.whole (padD (txt (encT p))))
theorem part_mem {n : Nat} {es : List Ent} {k : Nat} {e : Ent} (h : e ∈ partE n es k) : e ∈ es := List.mem_of_mem_drop (List.mem_of_mem_take h)
theorem parts_len (es : List Ent) : (partsE 2 es).length = (es.length + 1) / 2 := by simp [partsE, partsN]
theorem parts_get (es : List Ent) (k : Nat) (hk : k < (es.length + 1) / 2) : (partsE 2 es)[k]? = some (partE 2 es k) := by
  have hk' : k < partsN 2 es.length := hk
  simp [partsE, hk']
theorem TabAt.page {M : CM} {b : Nat} {es : List Ent} (h : TabAt M b es) (hp : M.pend = none) (k : Nat) (hk : k < (es.length + 1) / 2) : pageE M (b : Int) ((k + 1 : Nat) : Int) = (partE 2 es k, 0) := by
  have h14 := (tabF_zero h.ok).2.1
  have hlt := h.lt
  have hr : readR M (b : Int) ((k + 1 : Nat) : Int) = (padD (txt (encT (partE 2 es k))), 0) := by
    unfold readR downB
    rw [hp]
    rw [if_neg (by simp), if_pos ⟨by omega, by omega, by omega, by omega⟩]
    simp only [Int.toNat_natCast, h.pg, List.getElem?_cons_succ, List.getElem?_map, parts_get es k hk, Option.map_some]
  unfold pageE
  rw [hr]
  simp only [if_true]
  have hf : ∀ e ∈ partE 2 es k, faultE e = 0 := fun e he => tabF_fault h.ok e (part_mem he)
  have hl : (partE 2 es k).length ≤ 2 := by rw [partE_len]; unfold partL; omega
  have hT : parseT (txtL (padD (txt (encT (partE 2 es k))))) = some (partE 2 es k) := by
    have := parse_encT (partE 2 es k) (64 - (txt (encT (partE 2 es k))).size) hf (by omega)
    unfold padD txtL
    unfold txt at this ⊢
    simpa using this
  unfold entsT
  rw [hT]
theorem TabAt.blank {M : CM} {b : Nat} {es : List Ent} (h : TabAt M b es) (hp : M.pend = none) (p : Nat) (hk : (es.length + 1) / 2 < p) (h8 : p < 8) : pageE M (b : Int) (p : Int) = ([], 5) := by
  have hlt := h.lt
  have hr : readR M (b : Int) (p : Int) = ([], 5) := by
    unfold readR downB
    rw [hp]
    rw [if_neg (by simp), if_pos ⟨by omega, by omega, by omega, by omega⟩]
    have : (M.pg b)[p]? = none := by
      rw [h.pg]; apply List.getElem?_eq_none; simp [parts_len]; omega
    simp only [Int.toNat_natCast, this]
  unfold pageE
  rw [hr]
  rfl
theorem headN_byteN (f : Nat) (d : List UInt8) (h : ∀ i, i < 8 → d.getD (1 + i) 0 = byteN f i) : ∀ k, k ≤ 8 → headN d k = f % 256 ^ k := by
  intro k
  induction k with
  | zero => intro _; simp [headN, Nat.mod_one]
  | succ k ih =>
    intro hk
    have := ih (by omega)
    unfold headN
    rw [this]
    have hb : bytA d (1 + k) = f / 256 ^ k % 256 := by
      unfold bytA
      rw [h k (by omega)]
      unfold byteN
      simp
    rw [hb, Nat.pow_succ, Nat.mod_mul]
    rw [Nat.mul_comm]
theorem TabAt.head {M : CM} {b : Nat} {es : List Ent} (h : TabAt M b es) (hp : M.pend = none) : headR M (b : Int) = (filterN (keysE es), 0) := by
  have hlt := h.lt
  have hr : readR M (b : Int) 0 = (padD (headT es), 0) := by
    unfold readR downB
    rw [hp]
    rw [if_neg (by simp), if_pos ⟨by omega, by omega, by omega, by omega⟩]
    simp only [Int.toNat_natCast, h.pg]
    rfl
  have hd : padD (headT es) = headB (filterN (keysE es)) 8 ++ List.replicate 55 0 := by
    unfold padD
    rw [headT_size]
    rfl
  unfold headR
  rw [hr]
  have h0 : bytA (padD (headT es)) 0 = 70 := by rw [hd]; rfl
  rw [if_neg (by simp), if_neg (by simp [h0])]
  have := headN_byteN (filterN (keysE es)) (padD (headT es)) (fun i hi => by
    rw [hd]
    simp only [headB, List.getD_eq_getElem?_getD]
    rw [Nat.add_comm 1 i, List.cons_append, List.getElem?_cons_succ, List.getElem?_append_left (by simp; omega)]
    simp [hi]) 8 (by omega)
  have hf := filterN_lt (keysE es)
  simp only
  rw [this, Nat.mod_eq_of_lt (by omega)]
theorem parts_flat (n : Nat) (es : List Ent) : ∀ k, ((List.range k).map (partE n es)).flatten = es.take (k * n)
  | 0 => by simp
  | k + 1 => by
    rw [List.range_succ, List.map_append, List.flatten_append, parts_flat n es k, Nat.succ_mul, List.take_add]
    simp [partE]
theorem TabAt.goA {M : CM} {b : Nat} {es : List Ent} (h : TabAt M b es) (hp : M.pend = none) : ∀ (r : Nat), r ≤ 7 → goA M (b : Int) (es.take ((7 - r) * 2)) r = (es, 0) := by
  have hz := tabF_zero h.ok
  intro r
  induction r with
  | zero =>
    intro _
    unfold Go.Proofs.YtjeinblcpejpnabGreatDoor.goA
    rw [List.take_of_length_le (by omega)]
    simp [h.ok]
  | succ r ih =>
    intro hr
    have ih' := ih (by omega)
    rw [goA_succ]
    rw [show (8 - (r + 1) : Nat) = 7 - r by omega]
    by_cases hk : 7 - (r + 1) < (es.length + 1) / 2
    · have hpg := h.page hp (7 - (r + 1)) hk
      rw [show 7 - (r + 1) + 1 = 7 - r by omega] at hpg
      rw [hpg]
      rw [if_neg (by simp), if_neg (by simp)]
      rw [← ih']
      congr 1
      rw [show (7 - r) * 2 = (7 - (r + 1)) * 2 + 2 by omega, List.take_add]
      rfl
    · have hpg := h.blank hp (7 - r) (by omega) (by omega)
      rw [hpg]
      rw [if_pos rfl, ← ih']
      congr 1
      rw [List.take_of_length_le (by omega), List.take_of_length_le (by omega)]
theorem TabAt.all {M : CM} {b : Nat} {es : List Ent} (h : TabAt M b es) (hp : M.pend = none) : allR M (b : Int) = (es, 0) := by
  unfold allR
  rw [h.head hp, if_neg (by simp)]
  exact h.goA hp 7 (by omega)
end Go.Proofs.YtjeinblcpejpnabGreatDoor

/- What rising, Get, Put and Live answer. -/
namespace Go.Proofs.YtjeinblcpejpnabGreatDoor
open Go.RowKit

theorem Tryz.results23 : Tryz.f23.results = #[.cell 4 49, .tmp 5] := by kernel_rfl
/-- An entry as a value, or a blank one. -/
def noEnt : Ent := ⟨⟨#[]⟩, ⟨#[]⟩, false⟩
def gotV (o : Option Ent) : Value := .tuple #[entV (o.getD noEnt), .bool o.isSome]

theorem getE_step {es : List Ent} {k : Nat} {e : Ent} {key : ByteArray} (he : es[k]? = some e) (h : getE (es.take k) key = none) : getE (es.take (k + 1)) key = if e.key = key then some e else none := by
  rw [take_snocE he]
  unfold getE at *
  rw [List.find?_append, h, List.find?_cons]
  by_cases hk : e.key = key <;> simp [hk]
theorem getE_stop {es : List Ent} {k : Nat} {e : Ent} {key : ByteArray} (he : es[k]? = some e) (h : getE (es.take k) key = none) (hk : e.key = key) : getE es key = some e := by
  have h1 := getE_step he h
  rw [if_pos hk] at h1
  have h2 : es = es.take (k + 1) ++ es.drop (k + 1) := (List.take_append_drop _ _).symm
  rw [h2]
  unfold getE at *
  rw [List.find?_append, h1]; rfl

set_option maxHeartbeats 1000000 in
theorem refGet_any (ao : Option Addr) (cap : Nat) (es : List Ent) (key : ByteArray) (w : World) (hl : es.length ≤ 9223372036854775807) (hes : EntsAt w ao es) :
    Calls Tryz.prog 23 #[.slice ao es.length cap, .string key] w fun e w' => e = .returned (gotV (getE es key)) ∧ Ext w w' := by
  go_enter Tryz.func23, Tryz.ntmps23
  go_wp2
  go_loop [6] (fun i => ∃ k : Nat, k ≤ es.length ∧ i = .int .i64 k ∧ getE (es.take k) key = none) (fun i => es.length - (intOf i).toNat)
  case atStart => exact ⟨0, Nat.zero_le _, rfl, rfl⟩
  case round =>
    obtain ⟨k, hk, rfl, hnone⟩ := hrel
    have HN : Hid (getE (es.take k) key = none) := hnone
    clear hnone
    by_cases hlt : k < es.length
    · obtain ⟨b, off, ek, ev, eg, rfl, he, h1, h2, h3⟩ := hes.get hlt
      have HE : Hid (es[k]? = some (⟨ek, ev, eg⟩ : Ent)) := he
      have hx0 : Ext w (w.alloc (.cells #[.string ⟨#[]⟩, .string ⟨#[]⟩, .bool false] 49)) := (Ext.refl _).alloc _
      have hbl : b ≠ w.heap.size := by
        rcases Nat.lt_or_ge b w.heap.size with h' | h'
        · omega
        · simp [World.cell?, Array.getElem?_eq_none h'] at h1
      have g1 := hx0.cell h1
      have g2 := hx0.cell h2
      have g3 := hx0.cell h3
      clear h1 h2 h3 he hes
      by_cases hkk : ek = key
      · subst hkk
        go_wp2
        have hg := getE_stop HE.out HN.out rfl
        rw [hg]
        refine bodyPost_ret (v := .tuple #[.agg #[.string ek, .string ev, .bool eg], .bool true]) (by simp [results, go_sem]) rfl ⟨rfl, (Ext.refl _).alloc _⟩
      · have hbe : (ek.toList == key.toList) = false := beq_ne hkk
        have HK : Hid (¬ ek = key) := hkk
        clear hkk
        go_wp2
        go_round
        case rel => exact ⟨k + 1, by omega, by go_num, by rw [getE_step HE.out HN.out, if_neg HK.out]⟩
        case measure => simp [intOf]; omega
    · have hg : getE es key = none := by have := HN.out; rwa [List.take_of_length_le (by omega)] at this
      have HG : Hid (getE es key = none) := hg
      clear hg hes
      go_wp2
      rw [HG.out]
      refine bodyPost_ret (v := .tuple #[.agg #[.string ⟨#[]⟩, .string ⟨#[]⟩, .bool false], .bool false]) (by simp [results, go_sem]) rfl ⟨rfl, (Ext.refl _).alloc _⟩
end Go.Proofs.YtjeinblcpejpnabGreatDoor

/- Tables: Get. -/
namespace Go.Proofs.YtjeinblcpejpnabGreatDoor
open Go.RowKit Go.WideShapes
attribute [local go_sem ↓] Go.wp_at_zero Go.wp_at_succ

theorem Tryz.results89 : Tryz.f89.results = #[.cell 6 49, .tmp 7, .tmp 8] := by kernel_rfl
/-- What Get answers. -/
def got3 (o : Option Ent) : Value := .tuple #[entV (o.getD noEnt), .bool o.isSome, .nilIface]
/-- All ahead of page lo are below the key, all from page hi on above it. -/
structure Mid (es : List Ent) (key : ByteArray) (lo hi : Nat) : Prop where
  one : 1 ≤ lo
  le : lo ≤ hi
  top : hi ≤ (es.length + 1) / 2 + 1
  low : ∀ i e, i < (lo - 1) * 2 → es[i]? = some e → Lt e.key key
  high : ∀ i e, (hi - 1) * 2 ≤ i → es[i]? = some e → Lt key e.key
theorem Mid.done {es : List Ent} {key : ByteArray} {lo : Nat} (h : Mid es key lo lo) : getE es key = none := by
  refine getE_none fun e he hk => ?_
  obtain ⟨i, hi⟩ := List.getElem?_of_mem he
  rcases Nat.lt_or_ge i ((lo - 1) * 2) with hl | hl
  · exact (h.low i e hl hi).ne hk
  · exact (h.high i e hl hi).ne hk.symm
theorem part_get {n : Nat} {es : List Ent} {k i : Nat} {e : Ent} (h : (partE n es k)[i]? = some e) : es[k * n + i]? = some e := by
  unfold partE at h
  rw [List.getElem?_take] at h
  split at h
  · rw [List.getElem?_drop] at h; exact h
  · cases h
theorem ris_lt {es : List Ent} (h : Ris es) {i j : Nat} {x y : Ent} (hx : es[i]? = some x) (hy : es[j]? = some y) (hij : i < j) : Lt x.key y.key := by
  obtain ⟨hi, rfl⟩ := List.getElem?_eq_some_iff.1 hx
  obtain ⟨hj, rfl⟩ := List.getElem?_eq_some_iff.1 hy
  exact List.pairwise_iff_getElem.1 h i j hi hj hij
theorem part_ris {n : Nat} {es : List Ent} (h : Ris es) (k : Nat) : Ris (partE n es k) := List.Pairwise.sublist ((List.take_sublist _ _).trans (List.drop_sublist _ _)) h
theorem ge_mono {l : List Ent} (h : Ris l) (key : ByteArray) : ∀ i j, i ≤ j → j < l.length → geK l key i = true → geK l key j = true := fun i j hij hj hg => by
  rcases Nat.lt_or_eq_of_le hij with hlt | rfl
  · have hx := List.getElem?_eq_getElem (show i < l.length by omega)
    have hy := List.getElem?_eq_getElem hj
    have := ris_lt h hx hy hlt
    unfold geK at hg ⊢
    rw [hx] at hg
    rw [hy]
    simp only [Bool.not_eq_true'] at hg ⊢
    apply Lt.nless
    intro hc
    have h2 : Lt l[i].key key := this.trans hc
    rw [h2.less] at hg
    cases hg
  · exact hg
theorem geK_no {l : List Ent} {key : ByteArray} {i : Nat} {e : Ent} (he : l[i]? = some e) (h : geK l key i = false) : Lt e.key key := by
  unfold geK at h; simp only [he, Bool.not_eq_false'] at h; exact h
theorem geK_yes {l : List Ent} {key : ByteArray} {i : Nat} {e : Ent} (he : l[i]? = some e) (h : geK l key i = true) (hne : e.key ≠ key) : Lt key e.key := by
  unfold geK at h; simp only [he, Bool.not_eq_true'] at h
  rcases Lt.tri e.key key with h1 | h1 | h1
  · rw [h1.less] at h; cases h
  · exact absurd h1 hne
  · exact h1
theorem Mid.goHigh {es : List Ent} {key : ByteArray} {lo hi p : Nat} (h : Mid es key lo hi) (hr : Ris es) (h1 : lo ≤ p) (h2 : p < hi) {e : Ent} (he : (partE 2 es (p - 1))[0]? = some e) (hk : Lt key e.key) : Mid es key lo p :=
  ⟨h.one, h1, by have := h.top; omega, h.low, fun i x hi' hx => by
    have he' := part_get he
    rcases Nat.lt_or_eq_of_le hi' with hlt | heq
    · exact hk.trans (ris_lt hr he' hx (by omega))
    · rw [← heq] at hx
      rw [Nat.add_zero, hx] at he'
      cases he'
      exact hk⟩
theorem Mid.goLow {es : List Ent} {key : ByteArray} {lo hi p : Nat} (h : Mid es key lo hi) (h1 : lo ≤ p) (h2 : p < hi) (hk : ∀ (i : Nat) (e : Ent), (partE 2 es (p - 1))[i]? = some e → Lt e.key key) (hr : Ris es) : Mid es key (p + 1) hi := by
  have hone := h.one
  refine ⟨by omega, by omega, h.top, fun i x hi' hx => ?_, h.high⟩
  rcases Nat.lt_or_ge i ((p - 1) * 2) with hlt | hge
  · have hlen : (p - 1) * 2 < es.length := by have := h.top; omega
    have hy := List.getElem?_eq_getElem hlen
    have hin : (partE 2 es (p - 1))[0]? = some es[(p - 1) * 2] := by
      unfold partE; rw [List.getElem?_take, if_pos (by omega), List.getElem?_drop, Nat.add_zero]; exact hy
    exact (ris_lt hr hx hy hlt).trans (hk 0 _ hin)
  · refine hk (i - (p - 1) * 2) x ?_
    unfold partE
    rw [List.getElem?_take, if_pos (by omega), List.getElem?_drop, show (p - 1) * 2 + (i - (p - 1) * 2) = i by omega]
    exact hx
theorem Mid.between {es : List Ent} (hr : Ris es) {key : ByteArray} {k r : Nat} {x y : Ent} (hx : (partE 2 es k)[r]? = some x) (hy : (partE 2 es k)[r + 1]? = some y) (h1 : Lt x.key key) (h2 : Lt key y.key) : getE es key = none := by
  have hx' := part_get hx
  have hy' := part_get hy
  refine getE_none fun e he hk => ?_
  obtain ⟨i, hi⟩ := List.getElem?_of_mem he
  rcases Nat.lt_or_ge (k * 2 + r) i with hlt | hle
  · rcases Nat.lt_or_eq_of_le (show k * 2 + (r + 1) ≤ i by omega) with h3 | h3
    · have := h2.trans (ris_lt hr hy' hi h3); exact this.ne hk.symm
    · rw [← h3, hy'] at hi; cases hi; exact h2.ne hk.symm
  · rcases Nat.lt_or_eq_of_le hle with h3 | h3
    · have := (ris_lt hr hi hx' h3).trans h1; exact this.ne hk
    · rw [h3, hx'] at hi; cases hi; exact h1.ne hk
theorem Mid.start (es : List Ent) (key : ByteArray) : Mid es key 1 ((es.length + 1) / 2 + 1) :=
  ⟨by omega, by omega, by omega, fun i e h => by omega, fun i e h he => by
    have := (List.getElem?_eq_some_iff.1 he).1; omega⟩
set_option maxRecDepth 20000 in
set_option maxHeartbeats 4000000 in
theorem tabGet_any (cb b : Nat) (es : List Ent) (key : ByteArray) (M : CM) (w : World) (h : ChipAt w cb M) (hp : M.pend = none) (ht : TabAt M b es) (hks : key.size ≤ 4611686018427387904) :
    Calls Tryz.prog 89 #[.pointer (some ⟨cb, 0, none⟩), .int .i64 (b : Int), .string key] w fun e w' => e = .returned (got3 (getE es key)) ∧ Ext w w' := by
  have hris := tabF_ris ht.ok
  have hz := tabF_zero ht.ok
  have hx0 : Ext w ((w.alloc (.cells #[.string key] 9)).alloc (.cells #[.string ⟨#[]⟩, .string ⟨#[]⟩, .bool false] 49)) := ((Ext.refl w).alloc _).alloc _
  have b5 : Blk ((w.alloc (.cells #[.string key] 9)).alloc (.cells #[.string ⟨#[]⟩, .string ⟨#[]⟩, .bool false] 49)) w.heap.size #[.string key] 9 := (Blk.new w _ _).alloc _
  have b6 : Blk ((w.alloc (.cells #[.string key] 9)).alloc (.cells #[.string ⟨#[]⟩, .string ⟨#[]⟩, .bool false] 49)) (w.heap.size + 1) #[.string ⟨#[]⟩, .string ⟨#[]⟩, .bool false] 49 := Blk.new' _ _ _ (by simp)
  have HH : Hid (∀ W, Ext w W → Calls Tryz.prog 104 #[.pointer (some ⟨cb, 0, none⟩), .int .i64 (b : Int)] W fun e w' => e = .returned (.tuple #[.int .u64 (filterN (keysE es) : Int), .nilIface]) ∧ Ext W w') := fun W hx => by
    have := readHead_any cb b M W (h.ext hx); rw [ht.head hp] at this; exact this
  have hf := filterN_lt (keysE es)
  have HM : Hid (∀ W, Calls Tryz.prog 110 #[.int .u64 (filterN (keysE es) : Int), .string key] W fun e w' => e = .returned (.bool (mayN (filterN (keysE es)) key.data.toList)) ∧ Ext W w') := fun W =>
    (may_any _ key W (by omega) hks).mono fun e w' ⟨he, q, hq⟩ => ⟨he, by rw [hq]; exact (Ext.refl W).drewN q⟩
  have hpl : (M.pg b).length = (es.length + 1) / 2 + 1 := by rw [ht.pg]; simp [parts_len]
  have HN : Hid (∀ W, Ext w W → Calls Tryz.prog 33 #[.pointer (some ⟨cb, 0, none⟩), .int .i64 (b : Int)] W fun e w' => e = .returned (.int .i64 (((es.length + 1) / 2 + 1 : Nat) : Int)) ∧ w' = W) := fun W hx => by
    have := next_any cb b M W ht.lt (h.ext hx); rw [hpl] at this; exact this
  have HMID := Mid.start es key
  by_cases hmay : mayN (filterN (keysE es)) key.data.toList = true
  · rw [hmay] at HM
    have HP : Hid (∀ W (p : Nat), Ext w W → 1 ≤ p → p < (es.length + 1) / 2 + 1 → Calls Tryz.prog 105 #[.pointer (some ⟨cb, 0, none⟩), .int .i64 (b : Int), .int .i64 (p : Int)] W fun e w' => ∃ ao c, e = .returned (.tuple #[.slice ao (partE 2 es (p - 1)).length c, .nilIface]) ∧ EntsAt w' ao (partE 2 es (p - 1)) ∧ Ext W w') := fun W p hx h1 h2 => by
      have := readEnts_any cb b (p : Int) M W (h.ext hx)
      have hpg := ht.page hp (p - 1) (by omega)
      rw [show p - 1 + 1 = p by omega] at hpg
      rw [hpg] at this
      exact this
    have HRIS : Hid (Ris es) := hris
    have hN : (es.length + 1) / 2 + 1 ≤ 8 := by omega
    have HLEN : Hid (0 < es.length ∧ es.length ≤ 14) := ⟨hz.1, hz.2.1⟩
    clear h hp ht hpl hris hz hmay
    generalize hNN : (es.length + 1) / 2 + 1 = N at *
    generalize filterN (keysE es) = f at *
    go_enter Tryz.func89, Tryz.ntmps89
    go_wp2_with (first
      | (go_at_call 104; refine (HH.out _ hx0).mono ?_; rintro e w1 ⟨rfl, hx1⟩; have k5 := (Blk.ext hx1 b5).cell 0)
      | (go_at_call 110; refine (HM.out _).mono ?_; rintro e w2 ⟨rfl, hx2⟩)
      | (go_at_call 33; refine (HN.out _ (hx0.trans (hx1.trans hx2))).mono ?_; rintro e w3 ⟨rfl, rfl⟩))
    have hxw : Ext w w3 := hx0.trans (hx1.trans hx2)
    have B5 := Blk.ext (hx1.trans hx2) b5
    have B6 := Blk.ext (hx1.trans hx2) b6
    clear k5 hx0 hx1 hx2 b5 b6
    go_loopw [11, 12] (fun a c wr => ∃ lo hi : Nat, a = .int .i64 lo ∧ c = .int .i64 hi ∧ Mid es key lo hi ∧ Ext w3 wr) (fun a c _ => (intOf c).toNat - (intOf a).toNat)
    case atStart => exact ⟨1, N, rfl, rfl, HMID, Ext.refl _⟩
    case round =>
      obtain ⟨lo, hi, rfl, rfl, hm, hxr⟩ := hrel
      have C5 := Blk.ext hxr B5
      have C6 := Blk.ext hxr B6
      have hxwr := hxw.trans hxr
      have c60 := C6.cell 0
      have c61 := C6.cell 1
      have c62 := C6.cell 2
      have f60 := C6.free 0
      have f61 := C6.free 1
      have f62 := C6.free 2
      have hs6 := C6.lt
      have HMD : Hid (Mid es key lo hi) := hm
      have hm1 := hm.one
      have hm2 := hm.le
      have hm3 := hm.top
      clear hm HMID
      by_cases hlt : lo < hi
      · obtain ⟨p, hp⟩ : ∃ p : Nat, p = (lo + hi) / 2 := ⟨_, rfl⟩
        have hp1 : lo ≤ p := by omega
        have hp2 : p < hi := by omega
        have hpI : ((lo : Int) + (hi : Int)) / 2 = (p : Int) := by omega
        have HPP := HP.out wr p hxwr (by omega) (by omega)
        have hpl : 0 < (partE 2 es (p - 1)).length ∧ (partE 2 es (p - 1)).length ≤ 2 := by
          have := HLEN.out
          rw [partE_len]; unfold partL; omega
        have HRP : Hid (Ris (partE 2 es (p - 1))) := part_ris HRIS.out _
        have HPC : Hid (Calls Tryz.prog 105 #[.pointer (some ⟨cb, 0, none⟩), .int .i64 (b : Int), .int .i64 (p : Int)] wr fun e w' => ∃ ao c, e = .returned (.tuple #[.slice ao (partE 2 es (p - 1)).length c, .nilIface]) ∧ EntsAt w' ao (partE 2 es (p - 1)) ∧ Ext wr w') := HPP
        clear HPP hp
        have HES : Hid (partE 2 es (p - 1) = partE 2 es (p - 1)) := rfl
        obtain ⟨pl, hpl'⟩ : ∃ pl, partE 2 es (p - 1) = pl := ⟨_, rfl⟩
        have HPL : Hid (partE 2 es (p - 1) = pl) := hpl'
        rw [hpl'] at HPC hpl HRP
        clear hpl' HES
        go_wp2_with (first
          | (go_at_call 105; refine HPC.out.mono ?_; rintro e w4 ⟨ao, cp, rfl, hE4, hx4⟩)
          | (go_at_call 111; refine (search_any w4.heap.size w.heap.size pl key _ ⟨⟨ao, cp, Blk.new _ _ _, hE4.ext ((Ext.refl _).alloc _)⟩, (C5.ext hx4).alloc _⟩ ?_ ?_).mono ?_; omega; exact ge_mono HRP.out key; rintro e w5 ⟨⟨r, rfl, hF⟩, hx5⟩))
        have hx45 : Ext w4 w5 := ((Ext.refl w4).alloc _).trans hx5
        have D14 : Blk w5 w4.heap.size #[.slice ao pl.length cp] 37 := (Blk.new _ _ _).ext hx5
        have d14 := D14.cell 0
        have d5 := ((C5.ext hx4).ext hx45).cell 0
        have D6 := (C6.ext hx4).ext hx45
        have c60 := D6.cell 0
        have c61 := D6.cell 1
        have c62 := D6.cell 2
        have f60 := D6.free 0
        have f61 := D6.free 1
        have f62 := D6.free 2
        have hE5 := hE4.ext hx45
        have hxw5 : Ext w w5 := hxwr.trans (hx4.trans hx45)
        have hx35 : Ext w3 w5 := hxr.trans (hx4.trans hx45)
        have HF : Hid (From (geK pl key) pl.length r) := hF
        have hFle := hF.le
        clear hF hx5 hE4 hxr
        by_cases hr : r < pl.length
        · obtain ⟨eb, eo, ek, ev, eg, rfl, he, g1, g2, g3⟩ := hE5.get hr
          have HE : Hid (pl[r]? = some (⟨ek, ev, eg⟩ : Ent)) := he
          clear he hE5
          by_cases hk : ek = key
          · subst hk
            have HR : Hid (getE es ek = some ⟨ek, ev, eg⟩) := by
              have h1 := part_get (n := 2) (es := es) (k := p - 1) (i := r) (e := ⟨ek, ev, eg⟩) (by rw [HPL.out]; exact HE.out)
              exact getE_of_mem HRIS.out (e := ⟨ek, ev, eg⟩) (List.mem_of_getElem? h1)
            go_quiet (fail)
            go_wp2_with fail
            have E6 := (((D6.drewN nq).set 0 (.string ek)).set 1 (.string ev)).set 2 (.bool eg)
            have e0 := E6.cell 0
            have e1 := E6.cell 1
            have e2 := E6.cell 2
            refine bodyPost_ret (v := .tuple #[.agg #[.string ek, .string ev, .bool eg], .bool true, .nilIface]) (by simp [results, go_sem, e0, e1, e2]) rfl ⟨by rw [HR.out]; rfl, (((hxw5.drewN nq).set (p := ⟨w.heap.size + 1, 0, none⟩) (by show w.heap.size ≤ w.heap.size + 1; omega) _).set (p := ⟨w.heap.size + 1, 1, none⟩) (by show w.heap.size ≤ w.heap.size + 1; omega) _).set (p := ⟨w.heap.size + 1, 2, none⟩) (by show w.heap.size ≤ w.heap.size + 1; omega) _⟩
          · have hbe : (ek.toList == key.toList) = false := beq_ne hk
            have HK : Hid (Lt key ek) := geK_yes HE.out (HF.out.hi r (Nat.le_refl _) hr) hk
            clear hk
            by_cases h0 : r = 0
            · have h0' : ((r : Int) == 0) = true := by simp; omega
              have HE0 : Hid (pl[0]? = some (⟨ek, ev, eg⟩ : Ent)) := by rw [← h0]; exact HE.out
              clear h0
              go_quiet (fail)
              go_wp2_with fail
              go_roundw
              case rel => exact ⟨lo, p, rfl, rfl, HMD.out.goHigh HRIS.out hp1 hp2 (e := ⟨ek, ev, eg⟩) (by rw [HPL.out]; exact HE0.out) HK.out, hx35.drewN _⟩
              case measure => simp [intOf]; omega
            · have h0' : ((r : Int) == 0) = false := by simp; omega
              have h1' : ((r : Int) == (pl.length : Int)) = false := by simp; omega
              have HR : Hid (getE es key = none) := by
                obtain ⟨q, rfl⟩ : ∃ q, r = q + 1 := ⟨r - 1, by omega⟩
                have hx := List.getElem?_eq_getElem (show q < pl.length by omega)
                refine Mid.between HRIS.out (k := p - 1) (r := q) (x := pl[q]) (y := ⟨ek, ev, eg⟩) (by rw [HPL.out]; exact hx) (by rw [HPL.out]; exact HE.out) ?_ HK.out
                exact geK_no hx (HF.out.lo q (by omega))
              go_quiet (fail)
              go_wp2_with fail
              rw [HR.out]
              have E6 := (((D6.drewN nq).set 0 (.string ⟨#[]⟩)).set 1 (.string ⟨#[]⟩)).set 2 (.bool false)
              have e0 := E6.cell 0
              have e1 := E6.cell 1
              have e2 := E6.cell 2
              refine bodyPost_ret (v := .tuple #[.agg #[.string ⟨#[]⟩, .string ⟨#[]⟩, .bool false], .bool false, .nilIface]) (by simp [results, go_sem, e0, e1, e2]) rfl ⟨rfl, (((hxw5.drewN nq).set (p := ⟨w.heap.size + 1, 0, none⟩) (by show w.heap.size ≤ w.heap.size + 1; omega) _).set (p := ⟨w.heap.size + 1, 1, none⟩) (by show w.heap.size ≤ w.heap.size + 1; omega) _).set (p := ⟨w.heap.size + 1, 2, none⟩) (by show w.heap.size ≤ w.heap.size + 1; omega) _⟩
        · have hrl : r = pl.length := by omega
          have HLO : Hid (Mid es key (p + 1) hi) := HMD.out.goLow hp1 hp2 (fun i x hx => by
            rw [HPL.out] at hx
            have hi' := (List.getElem?_eq_some_iff.1 hx).1
            exact geK_no hx (HF.out.lo i (by omega))) HRIS.out
          subst hrl
          have h0' : ((pl.length : Int) == 0) = false := beq_eq_false_iff_ne.2 (by omega)
          clear hE5
          go_quiet (fail)
          go_wp2_with fail
          go_roundw
          case rel => exact ⟨p + 1, hi, by go_num, rfl, HLO.out, hx35.drewN _⟩
          case measure => simp [intOf]; omega
      · have hle : lo = hi := by omega
        subst hle
        have HR : Hid (getE es key = none) := HMD.out.done
        go_wp2_with fail
        rw [HR.out]
        have E6 := (((C6).set 0 (.string ⟨#[]⟩)).set 1 (.string ⟨#[]⟩)).set 2 (.bool false)
        have e0 := E6.cell 0
        have e1 := E6.cell 1
        have e2 := E6.cell 2
        refine bodyPost_ret (v := .tuple #[.agg #[.string ⟨#[]⟩, .string ⟨#[]⟩, .bool false], .bool false, .nilIface]) (by simp [results, go_sem, e0, e1, e2]) rfl ⟨rfl, (((hxwr).set (p := ⟨w.heap.size + 1, 0, none⟩) (by show w.heap.size ≤ w.heap.size + 1; omega) _).set (p := ⟨w.heap.size + 1, 1, none⟩) (by show w.heap.size ≤ w.heap.size + 1; omega) _).set (p := ⟨w.heap.size + 1, 2, none⟩) (by show w.heap.size ≤ w.heap.size + 1; omega) _⟩
  · have hmay' : mayN (filterN (keysE es)) key.data.toList = false := by simpa using hmay
    rw [hmay'] at HM
    have HR : Hid (getE es key = none) := getE_none fun e he hk => by
      have := mayN_mem (keysE es) key (by rw [← hk]; exact List.mem_map_of_mem he)
      rw [this] at hmay'
      cases hmay'
    rw [HR.out]
    clear h hp ht hpl hris hz hmay hmay' HMID HN
    generalize filterN (keysE es) = f at *
    go_enter Tryz.func89, Tryz.ntmps89
    go_wp2_with (first
      | (go_at_call 104; refine (HH.out _ hx0).mono ?_; rintro e w1 ⟨rfl, hx1⟩; have k5 := (Blk.ext hx1 b5).cell 0)
      | (go_at_call 110; refine (HM.out _).mono ?_; rintro e w2 ⟨rfl, hx2⟩; have C6 := Blk.ext (hx1.trans hx2) b6; have c60 := C6.cell 0; have c61 := C6.cell 1; have c62 := C6.cell 2; have f60 := C6.free 0; have f61 := C6.free 1; have f62 := C6.free 2))
    have E6 := (((C6).set 0 (.string ⟨#[]⟩)).set 1 (.string ⟨#[]⟩)).set 2 (.bool false)
    have e0 := E6.cell 0
    have e1 := E6.cell 1
    have e2 := E6.cell 2
    refine bodyPost_ret (v := .tuple #[.agg #[.string ⟨#[]⟩, .string ⟨#[]⟩, .bool false], .bool false, .nilIface]) (by simp [results, go_sem, e0, e1, e2]) rfl ⟨rfl, (((hx0.trans (hx1.trans hx2)).set (p := ⟨w.heap.size + 1, 0, none⟩) (by show w.heap.size ≤ w.heap.size + 1; omega) _).set (p := ⟨w.heap.size + 1, 1, none⟩) (by show w.heap.size ≤ w.heap.size + 1; omega) _).set (p := ⟨w.heap.size + 1, 2, none⟩) (by show w.heap.size ≤ w.heap.size + 1; omega) _⟩
end Go.Proofs.YtjeinblcpejpnabGreatDoor
