/- LstG TabK TabL. -/
import Derived.Test.YtjeinblcpejpnabGreatDoorTabJJ
import Derived.Deep.RegionHeld3

/- What rising, Get, Put and Live answer. -/
namespace Go.Proofs.YtjeinblcpejpnabGreatDoor
open Go.RowKit

theorem Tryz.results23 : Tryz.f23.results = #[.cell 4 49, .tmp 5] := by kernel_rfl
/-- An entry as a value, or a blank one. -/
def noEnt : Ent := ⟨⟨#[]⟩, ⟨#[]⟩, false⟩
def gotV (o : Option Ent) : Value := .tuple #[entV (o.getD noEnt), .bool o.isSome]

theorem getE_step {es : List Ent} {k : Nat} {e : Ent} {key : ByteArray} (he : es[k]? = some e) (h : getE (es.take k) key = none) : getE (es.take (k + 1)) key = if e.key = key then some e else none := by
  rw [take_snocE he]
  unfold getE at *
  rw [List.find?_append, h, List.find?_cons]
  by_cases hk : e.key = key <;> simp [hk]
theorem getE_stop {es : List Ent} {k : Nat} {e : Ent} {key : ByteArray} (he : es[k]? = some e) (h : getE (es.take k) key = none) (hk : e.key = key) : getE es key = some e := by
  have h1 := getE_step he h
  rw [if_pos hk] at h1
  have h2 : es = es.take (k + 1) ++ es.drop (k + 1) := (List.take_append_drop _ _).symm
  rw [h2]
  unfold getE at *
  rw [List.find?_append, h1]; rfl

set_option maxHeartbeats 1000000 in
theorem refGet_any (ao : Option Addr) (cap : Nat) (es : List Ent) (key : ByteArray) (w : World) (hl : es.length ≤ 9223372036854775807) (hes : EntsAt w ao es) :
    Calls Tryz.prog 23 #[.slice ao es.length cap, .string key] w fun e w' => e = .returned (gotV (getE es key)) ∧ Ext w w' := by
  go_enter Tryz.func23, Tryz.ntmps23
  go_wp2
  go_loop [6] (fun i => ∃ k : Nat, k ≤ es.length ∧ i = .int .i64 k ∧ getE (es.take k) key = none) (fun i => es.length - (intOf i).toNat)
  case atStart => exact ⟨0, Nat.zero_le _, rfl, rfl⟩
  case round =>
    obtain ⟨k, hk, rfl, hnone⟩ := hrel
    have HN : Hid (getE (es.take k) key = none) := hnone
    clear hnone
    by_cases hlt : k < es.length
    · obtain ⟨b, off, ek, ev, eg, rfl, he, h1, h2, h3⟩ := hes.get hlt
      have HE : Hid (es[k]? = some (⟨ek, ev, eg⟩ : Ent)) := he
      have hx0 : Ext w (w.alloc (.cells #[.string ⟨#[]⟩, .string ⟨#[]⟩, .bool false] 49)) := (Ext.refl _).alloc _
      have hbl : b ≠ w.heap.size := by
        rcases Nat.lt_or_ge b w.heap.size with h' | h'
        · omega
        · simp [World.cell?, Array.getElem?_eq_none h'] at h1
      have g1 := hx0.cell h1
      have g2 := hx0.cell h2
      have g3 := hx0.cell h3
      clear h1 h2 h3 he hes
      by_cases hkk : ek = key
      · subst hkk
        go_wp2
        have hg := getE_stop HE.out HN.out rfl
        rw [hg]
        refine bodyPost_ret (v := .tuple #[.agg #[.string ek, .string ev, .bool eg], .bool true]) (by simp [results, go_sem]) rfl ⟨rfl, (Ext.refl _).alloc _⟩
      · have hbe : (ek.toList == key.toList) = false := beq_ne hkk
        have HK : Hid (¬ ek = key) := hkk
        clear hkk
        go_wp2
        go_round
        case rel => exact ⟨k + 1, by omega, by go_num, by rw [getE_step HE.out HN.out, if_neg HK.out]⟩
        case measure => simp [intOf]; omega
    · have hg : getE es key = none := by have := HN.out; rwa [List.take_of_length_le (by omega)] at this
      have HG : Hid (getE es key = none) := hg
      clear hg hes
      go_wp2
      rw [HG.out]
      refine bodyPost_ret (v := .tuple #[.agg #[.string ⟨#[]⟩, .string ⟨#[]⟩, .bool false], .bool false]) (by simp [results, go_sem]) rfl ⟨rfl, (Ext.refl _).alloc _⟩
end Go.Proofs.YtjeinblcpejpnabGreatDoor

/- Tables: Get. -/
namespace Go.Proofs.YtjeinblcpejpnabGreatDoor
open Go.RowKit Go.WideShapes
attribute [local go_sem ↓] Go.wp_at_zero Go.wp_at_succ

theorem Tryz.results89 : Tryz.f89.results = #[.cell 6 49, .tmp 7, .tmp 8] := by kernel_rfl
/-- What Get answers. -/
def got3 (o : Option Ent) : Value := .tuple #[entV (o.getD noEnt), .bool o.isSome, .nilIface]
/-- All ahead of page lo are below the key, all from page hi on above it. -/
structure Mid (es : List Ent) (key : ByteArray) (lo hi : Nat) : Prop where
  one : 1 ≤ lo
  le : lo ≤ hi
  top : hi ≤ (es.length + 1) / 2 + 1
  low : ∀ i e, i < (lo - 1) * 2 → es[i]? = some e → Lt e.key key
  high : ∀ i e, (hi - 1) * 2 ≤ i → es[i]? = some e → Lt key e.key
theorem Mid.done {es : List Ent} {key : ByteArray} {lo : Nat} (h : Mid es key lo lo) : getE es key = none := by
  refine getE_none fun e he hk => ?_
  obtain ⟨i, hi⟩ := List.getElem?_of_mem he
  rcases Nat.lt_or_ge i ((lo - 1) * 2) with hl | hl
  · exact (h.low i e hl hi).ne hk
  · exact (h.high i e hl hi).ne hk.symm
theorem part_get {n : Nat} {es : List Ent} {k i : Nat} {e : Ent} (h : (partE n es k)[i]? = some e) : es[k * n + i]? = some e := by
  unfold partE at h
  rw [List.getElem?_take] at h
  split at h
  · rw [List.getElem?_drop] at h; exact h
  · cases h
theorem ris_lt {es : List Ent} (h : Ris es) {i j : Nat} {x y : Ent} (hx : es[i]? = some x) (hy : es[j]? = some y) (hij : i < j) : Lt x.key y.key := by
  obtain ⟨hi, rfl⟩ := List.getElem?_eq_some_iff.1 hx
  obtain ⟨hj, rfl⟩ := List.getElem?_eq_some_iff.1 hy
  exact List.pairwise_iff_getElem.1 h i j hi hj hij
theorem part_ris {n : Nat} {es : List Ent} (h : Ris es) (k : Nat) : Ris (partE n es k) := List.Pairwise.sublist ((List.take_sublist _ _).trans (List.drop_sublist _ _)) h
theorem ge_mono {l : List Ent} (h : Ris l) (key : ByteArray) : ∀ i j, i ≤ j → j < l.length → geK l key i = true → geK l key j = true := fun i j hij hj hg => by
  rcases Nat.lt_or_eq_of_le hij with hlt | rfl
  · have hx := List.getElem?_eq_getElem (show i < l.length by omega)
    have hy := List.getElem?_eq_getElem hj
    have := ris_lt h hx hy hlt
    unfold geK at hg ⊢
    rw [hx] at hg
    rw [hy]
    simp only [Bool.not_eq_true'] at hg ⊢
    apply Lt.nless
    intro hc
    have h2 : Lt l[i].key key := this.trans hc
    rw [h2.less] at hg
    cases hg
  · exact hg
theorem geK_no {l : List Ent} {key : ByteArray} {i : Nat} {e : Ent} (he : l[i]? = some e) (h : geK l key i = false) : Lt e.key key := by
  unfold geK at h; simp only [he, Bool.not_eq_false'] at h; exact h
theorem geK_yes {l : List Ent} {key : ByteArray} {i : Nat} {e : Ent} (he : l[i]? = some e) (h : geK l key i = true) (hne : e.key ≠ key) : Lt key e.key := by
  unfold geK at h; simp only [he, Bool.not_eq_true'] at h
  rcases Lt.tri e.key key with h1 | h1 | h1
  · rw [h1.less] at h; cases h
  · exact absurd h1 hne
  · exact h1
theorem Mid.goHigh {es : List Ent} {key : ByteArray} {lo hi p : Nat} (h : Mid es key lo hi) (hr : Ris es) (h1 : lo ≤ p) (h2 : p < hi) {e : Ent} (he : (partE 2 es (p - 1))[0]? = some e) (hk : Lt key e.key) : Mid es key lo p :=
  ⟨h.one, h1, by have := h.top; omega, h.low, fun i x hi' hx => by
    have he' := part_get he
    rcases Nat.lt_or_eq_of_le hi' with hlt | heq
    · exact hk.trans (ris_lt hr he' hx (by omega))
    · rw [← heq] at hx
      rw [Nat.add_zero, hx] at he'
      cases he'
      exact hk⟩
theorem Mid.goLow {es : List Ent} {key : ByteArray} {lo hi p : Nat} (h : Mid es key lo hi) (h1 : lo ≤ p) (h2 : p < hi) (hk : ∀ (i : Nat) (e : Ent), (partE 2 es (p - 1))[i]? = some e → Lt e.key key) (hr : Ris es) : Mid es key (p + 1) hi := by
  have hone := h.one
  refine ⟨by omega, by omega, h.top, fun i x hi' hx => ?_, h.high⟩
  rcases Nat.lt_or_ge i ((p - 1) * 2) with hlt | hge
  · have hlen : (p - 1) * 2 < es.length := by have := h.top; omega
    have hy := List.getElem?_eq_getElem hlen
    have hin : (partE 2 es (p - 1))[0]? = some es[(p - 1) * 2] := by
      unfold partE; rw [List.getElem?_take, if_pos (by omega), List.getElem?_drop, Nat.add_zero]; exact hy
    exact (ris_lt hr hx hy hlt).trans (hk 0 _ hin)
  · refine hk (i - (p - 1) * 2) x ?_
    unfold partE
    rw [List.getElem?_take, if_pos (by omega), List.getElem?_drop, show (p - 1) * 2 + (i - (p - 1) * 2) = i by omega]
    exact hx
theorem Mid.between {es : List Ent} (hr : Ris es) {key : ByteArray} {k r : Nat} {x y : Ent} (hx : (partE 2 es k)[r]? = some x) (hy : (partE 2 es k)[r + 1]? = some y) (h1 : Lt x.key key) (h2 : Lt key y.key) : getE es key = none := by
  have hx' := part_get hx
  have hy' := part_get hy
  refine getE_none fun e he hk => ?_
  obtain ⟨i, hi⟩ := List.getElem?_of_mem he
  rcases Nat.lt_or_ge (k * 2 + r) i with hlt | hle
  · rcases Nat.lt_or_eq_of_le (show k * 2 + (r + 1) ≤ i by omega) with h3 | h3
    · have := h2.trans (ris_lt hr hy' hi h3); exact this.ne hk.symm
    · rw [← h3, hy'] at hi; cases hi; exact h2.ne hk.symm
  · rcases Nat.lt_or_eq_of_le hle with h3 | h3
    · have := (ris_lt hr hi hx' h3).trans h1; exact this.ne hk
    · rw [h3, hx'] at hi; cases hi; exact h1.ne hk
theorem Mid.start (es : List Ent) (key : ByteArray) : Mid es key 1 ((es.length + 1) / 2 + 1) :=
  ⟨by omega, by omega, by omega, fun i e h => by omega, fun i e h he => by
    have := (List.getElem?_eq_some_iff.1 he).1; omega⟩
set_option maxRecDepth 20000 in
set_option maxHeartbeats 4000000 in
theorem tabGet_any (cb b : Nat) (es : List Ent) (key : ByteArray) (M : CM) (w : World) (h : ChipAt w cb M) (hp : M.pend = none) (ht : TabAt M b es) (hks : key.size ≤ 4611686018427387904) :
    Calls Tryz.prog 89 #[.pointer (some ⟨cb, 0, none⟩), .int .i64 (b : Int), .string key] w fun e w' => e = .returned (got3 (getE es key)) ∧ Ext w w' := by
  have hris := tabF_ris ht.ok
  have hz := tabF_zero ht.ok
  have hx0 : Ext w ((w.alloc (.cells #[.string key] 9)).alloc (.cells #[.string ⟨#[]⟩, .string ⟨#[]⟩, .bool false] 49)) := ((Ext.refl w).alloc _).alloc _
  have b5 : Blk ((w.alloc (.cells #[.string key] 9)).alloc (.cells #[.string ⟨#[]⟩, .string ⟨#[]⟩, .bool false] 49)) w.heap.size #[.string key] 9 := (Blk.new w _ _).alloc _
  have b6 : Blk ((w.alloc (.cells #[.string key] 9)).alloc (.cells #[.string ⟨#[]⟩, .string ⟨#[]⟩, .bool false] 49)) (w.heap.size + 1) #[.string ⟨#[]⟩, .string ⟨#[]⟩, .bool false] 49 := Blk.new' _ _ _ (by simp)
  have HH : Hid (∀ W, Ext w W → Calls Tryz.prog 104 #[.pointer (some ⟨cb, 0, none⟩), .int .i64 (b : Int)] W fun e w' => e = .returned (.tuple #[.int .u64 (filterN (keysE es) : Int), .nilIface]) ∧ Ext W w') := fun W hx => by
    have := readHead_any cb b M W (h.ext hx); rw [ht.head hp] at this; exact this
  have hf := filterN_lt (keysE es)
  have HM : Hid (∀ W, Calls Tryz.prog 110 #[.int .u64 (filterN (keysE es) : Int), .string key] W fun e w' => e = .returned (.bool (mayN (filterN (keysE es)) key.data.toList)) ∧ Ext W w') := fun W =>
    (may_any _ key W (by omega) hks).mono fun e w' ⟨he, q, hq⟩ => ⟨he, by rw [hq]; exact (Ext.refl W).drewN q⟩
  have hpl : (M.pg b).length = (es.length + 1) / 2 + 1 := by rw [ht.pg]; simp [parts_len]
  have HN : Hid (∀ W, Ext w W → Calls Tryz.prog 33 #[.pointer (some ⟨cb, 0, none⟩), .int .i64 (b : Int)] W fun e w' => e = .returned (.int .i64 (((es.length + 1) / 2 + 1 : Nat) : Int)) ∧ w' = W) := fun W hx => by
    have := next_any cb b M W ht.lt (h.ext hx); rw [hpl] at this; exact this
  have HMID := Mid.start es key
  by_cases hmay : mayN (filterN (keysE es)) key.data.toList = true
  · rw [hmay] at HM
    have HP : Hid (∀ W (p : Nat), Ext w W → 1 ≤ p → p < (es.length + 1) / 2 + 1 → Calls Tryz.prog 105 #[.pointer (some ⟨cb, 0, none⟩), .int .i64 (b : Int), .int .i64 (p : Int)] W fun e w' => ∃ ao c, e = .returned (.tuple #[.slice ao (partE 2 es (p - 1)).length c, .nilIface]) ∧ EntsAt w' ao (partE 2 es (p - 1)) ∧ Ext W w') := fun W p hx h1 h2 => by
      have := readEnts_any cb b (p : Int) M W (h.ext hx)
      have hpg := ht.page hp (p - 1) (by omega)
      rw [show p - 1 + 1 = p by omega] at hpg
      rw [hpg] at this
      exact this
    have HRIS : Hid (Ris es) := hris
    have hN : (es.length + 1) / 2 + 1 ≤ 8 := by omega
    have HLEN : Hid (0 < es.length ∧ es.length ≤ 14) := ⟨hz.1, hz.2.1⟩
    clear h hp ht hpl hris hz hmay
    generalize hNN : (es.length + 1) / 2 + 1 = N at *
    generalize filterN (keysE es) = f at *
    go_enter Tryz.func89, Tryz.ntmps89
    go_wp2_with (first
      | (go_at_call 104; refine (HH.out _ hx0).mono ?_; rintro e w1 ⟨rfl, hx1⟩; have k5 := (Blk.ext hx1 b5).cell 0)
      | (go_at_call 110; refine (HM.out _).mono ?_; rintro e w2 ⟨rfl, hx2⟩)
      | (go_at_call 33; refine (HN.out _ (hx0.trans (hx1.trans hx2))).mono ?_; rintro e w3 ⟨rfl, rfl⟩))
    have hxw : Ext w w3 := hx0.trans (hx1.trans hx2)
    have B5 := Blk.ext (hx1.trans hx2) b5
    have B6 := Blk.ext (hx1.trans hx2) b6
    clear k5 hx0 hx1 hx2 b5 b6
    go_loopw [11, 12] (fun a c wr => ∃ lo hi : Nat, a = .int .i64 lo ∧ c = .int .i64 hi ∧ Mid es key lo hi ∧ Ext w3 wr) (fun a c _ => (intOf c).toNat - (intOf a).toNat)
    case atStart => exact ⟨1, N, rfl, rfl, HMID, Ext.refl _⟩
    case round =>
      obtain ⟨lo, hi, rfl, rfl, hm, hxr⟩ := hrel
      have C5 := Blk.ext hxr B5
      have C6 := Blk.ext hxr B6
      have hxwr := hxw.trans hxr
      have c60 := C6.cell 0
      have c61 := C6.cell 1
      have c62 := C6.cell 2
      have f60 := C6.free 0
      have f61 := C6.free 1
      have f62 := C6.free 2
      have hs6 := C6.lt
      have HMD : Hid (Mid es key lo hi) := hm
      have hm1 := hm.one
      have hm2 := hm.le
      have hm3 := hm.top
      clear hm HMID
      by_cases hlt : lo < hi
      · obtain ⟨p, hp⟩ : ∃ p : Nat, p = (lo + hi) / 2 := ⟨_, rfl⟩
        have hp1 : lo ≤ p := by omega
        have hp2 : p < hi := by omega
        have hpI : ((lo : Int) + (hi : Int)) / 2 = (p : Int) := by omega
        have HPP := HP.out wr p hxwr (by omega) (by omega)
        have hpl : 0 < (partE 2 es (p - 1)).length ∧ (partE 2 es (p - 1)).length ≤ 2 := by
          have := HLEN.out
          rw [partE_len]; unfold partL; omega
        have HRP : Hid (Ris (partE 2 es (p - 1))) := part_ris HRIS.out _
        have HPC : Hid (Calls Tryz.prog 105 #[.pointer (some ⟨cb, 0, none⟩), .int .i64 (b : Int), .int .i64 (p : Int)] wr fun e w' => ∃ ao c, e = .returned (.tuple #[.slice ao (partE 2 es (p - 1)).length c, .nilIface]) ∧ EntsAt w' ao (partE 2 es (p - 1)) ∧ Ext wr w') := HPP
        clear HPP hp
        have HES : Hid (partE 2 es (p - 1) = partE 2 es (p - 1)) := rfl
        obtain ⟨pl, hpl'⟩ : ∃ pl, partE 2 es (p - 1) = pl := ⟨_, rfl⟩
        have HPL : Hid (partE 2 es (p - 1) = pl) := hpl'
        rw [hpl'] at HPC hpl HRP
        clear hpl' HES
        go_wp2_with (first
          | (go_at_call 105; refine HPC.out.mono ?_; rintro e w4 ⟨ao, cp, rfl, hE4, hx4⟩)
          | (go_at_call 111; refine (search_any w4.heap.size w.heap.size pl key _ ⟨⟨ao, cp, Blk.new _ _ _, hE4.ext ((Ext.refl _).alloc _)⟩, (C5.ext hx4).alloc _⟩ ?_ ?_).mono ?_; omega; exact ge_mono HRP.out key; rintro e w5 ⟨⟨r, rfl, hF⟩, hx5⟩))
        have hx45 : Ext w4 w5 := ((Ext.refl w4).alloc _).trans hx5
        have D14 : Blk w5 w4.heap.size #[.slice ao pl.length cp] 37 := (Blk.new _ _ _).ext hx5
        have d14 := D14.cell 0
        have d5 := ((C5.ext hx4).ext hx45).cell 0
        have D6 := (C6.ext hx4).ext hx45
        have c60 := D6.cell 0
        have c61 := D6.cell 1
        have c62 := D6.cell 2
        have f60 := D6.free 0
        have f61 := D6.free 1
        have f62 := D6.free 2
        have hE5 := hE4.ext hx45
        have hxw5 : Ext w w5 := hxwr.trans (hx4.trans hx45)
        have hx35 : Ext w3 w5 := hxr.trans (hx4.trans hx45)
        have HF : Hid (From (geK pl key) pl.length r) := hF
        have hFle := hF.le
        clear hF hx5 hE4 hxr
        by_cases hr : r < pl.length
        · obtain ⟨eb, eo, ek, ev, eg, rfl, he, g1, g2, g3⟩ := hE5.get hr
          have HE : Hid (pl[r]? = some (⟨ek, ev, eg⟩ : Ent)) := he
          clear he hE5
          by_cases hk : ek = key
          · subst hk
            have HR : Hid (getE es ek = some ⟨ek, ev, eg⟩) := by
              have h1 := part_get (n := 2) (es := es) (k := p - 1) (i := r) (e := ⟨ek, ev, eg⟩) (by rw [HPL.out]; exact HE.out)
              exact getE_of_mem HRIS.out (e := ⟨ek, ev, eg⟩) (List.mem_of_getElem? h1)
            go_quiet (fail)
            go_wp2_with fail
            have E6 := (((D6.drewN nq).set 0 (.string ek)).set 1 (.string ev)).set 2 (.bool eg)
            have e0 := E6.cell 0
            have e1 := E6.cell 1
            have e2 := E6.cell 2
            refine bodyPost_ret (v := .tuple #[.agg #[.string ek, .string ev, .bool eg], .bool true, .nilIface]) (by simp [results, go_sem, e0, e1, e2]) rfl ⟨by rw [HR.out]; rfl, (((hxw5.drewN nq).set (p := ⟨w.heap.size + 1, 0, none⟩) (by show w.heap.size ≤ w.heap.size + 1; omega) _).set (p := ⟨w.heap.size + 1, 1, none⟩) (by show w.heap.size ≤ w.heap.size + 1; omega) _).set (p := ⟨w.heap.size + 1, 2, none⟩) (by show w.heap.size ≤ w.heap.size + 1; omega) _⟩
          · have hbe : (ek.toList == key.toList) = false := beq_ne hk
            have HK : Hid (Lt key ek) := geK_yes HE.out (HF.out.hi r (Nat.le_refl _) hr) hk
            clear hk
            by_cases h0 : r = 0
            · have h0' : ((r : Int) == 0) = true := by simp; omega
              have HE0 : Hid (pl[0]? = some (⟨ek, ev, eg⟩ : Ent)) := by rw [← h0]; exact HE.out
              clear h0
              go_quiet (fail)
              go_wp2_with fail
              go_roundw
              case rel => exact ⟨lo, p, rfl, rfl, HMD.out.goHigh HRIS.out hp1 hp2 (e := ⟨ek, ev, eg⟩) (by rw [HPL.out]; exact HE0.out) HK.out, hx35.drewN _⟩
              case measure => simp [intOf]; omega
            · have h0' : ((r : Int) == 0) = false := by simp; omega
              have h1' : ((r : Int) == (pl.length : Int)) = false := by simp; omega
              have HR : Hid (getE es key = none) := by
                obtain ⟨q, rfl⟩ : ∃ q, r = q + 1 := ⟨r - 1, by omega⟩
                have hx := List.getElem?_eq_getElem (show q < pl.length by omega)
                refine Mid.between HRIS.out (k := p - 1) (r := q) (x := pl[q]) (y := ⟨ek, ev, eg⟩) (by rw [HPL.out]; exact hx) (by rw [HPL.out]; exact HE.out) ?_ HK.out
                exact geK_no hx (HF.out.lo q (by omega))
              go_quiet (fail)
              go_wp2_with fail
              rw [HR.out]
              have E6 := (((D6.drewN nq).set 0 (.string ⟨#[]⟩)).set 1 (.string ⟨#[]⟩)).set 2 (.bool false)
              have e0 := E6.cell 0
              have e1 := E6.cell 1
              have e2 := E6.cell 2
              refine bodyPost_ret (v := .tuple #[.agg #[.string ⟨#[]⟩, .string ⟨#[]⟩, .bool false], .bool false, .nilIface]) (by simp [results, go_sem, e0, e1, e2]) rfl ⟨rfl, (((hxw5.drewN nq).set (p := ⟨w.heap.size + 1, 0, none⟩) (by show w.heap.size ≤ w.heap.size + 1; omega) _).set (p := ⟨w.heap.size + 1, 1, none⟩) (by show w.heap.size ≤ w.heap.size + 1; omega) _).set (p := ⟨w.heap.size + 1, 2, none⟩) (by show w.heap.size ≤ w.heap.size + 1; omega) _⟩
        · have hrl : r = pl.length := by omega
          have HLO : Hid (Mid es key (p + 1) hi) := HMD.out.goLow hp1 hp2 (fun i x hx => by
            rw [HPL.out] at hx
            have hi' := (List.getElem?_eq_some_iff.1 hx).1
            exact geK_no hx (HF.out.lo i (by omega))) HRIS.out
          subst hrl
          have h0' : ((pl.length : Int) == 0) = false := beq_eq_false_iff_ne.2 (by omega)
          clear hE5
          go_quiet (fail)
          go_wp2_with fail
          go_roundw
          case rel => exact ⟨p + 1, hi, by go_num, rfl, HLO.out, hx35.drewN _⟩
          case measure => simp [intOf]; omega
      · have hle : lo = hi := by omega
        subst hle
        have HR : Hid (getE es key = none) := HMD.out.done
        go_wp2_with fail
        rw [HR.out]
        have E6 := (((C6).set 0 (.string ⟨#[]⟩)).set 1 (.string ⟨#[]⟩)).set 2 (.bool false)
        have e0 := E6.cell 0
        have e1 := E6.cell 1
        have e2 := E6.cell 2
        refine bodyPost_ret (v := .tuple #[.agg #[.string ⟨#[]⟩, .string ⟨#[]⟩, .bool false], .bool false, .nilIface]) (by simp [results, go_sem, e0, e1, e2]) rfl ⟨rfl, (((hxwr).set (p := ⟨w.heap.size + 1, 0, none⟩) (by show w.heap.size ≤ w.heap.size + 1; omega) _).set (p := ⟨w.heap.size + 1, 1, none⟩) (by show w.heap.size ≤ w.heap.size + 1; omega) _).set (p := ⟨w.heap.size + 1, 2, none⟩) (by show w.heap.size ≤ w.heap.size + 1; omega) _⟩
  · have hmay' : mayN (filterN (keysE es)) key.data.toList = false := by simpa using hmay
    rw [hmay'] at HM
    have HR : Hid (getE es key = none) := getE_none fun e he hk => by
      have := mayN_mem (keysE es) key (by rw [← hk]; exact List.mem_map_of_mem he)
      rw [this] at hmay'
      cases hmay'
    rw [HR.out]
    clear h hp ht hpl hris hz hmay hmay' HMID HN
    generalize filterN (keysE es) = f at *
    go_enter Tryz.func89, Tryz.ntmps89
    go_wp2_with (first
      | (go_at_call 104; refine (HH.out _ hx0).mono ?_; rintro e w1 ⟨rfl, hx1⟩; have k5 := (Blk.ext hx1 b5).cell 0)
      | (go_at_call 110; refine (HM.out _).mono ?_; rintro e w2 ⟨rfl, hx2⟩; have C6 := Blk.ext (hx1.trans hx2) b6; have c60 := C6.cell 0; have c61 := C6.cell 1; have c62 := C6.cell 2; have f60 := C6.free 0; have f61 := C6.free 1; have f62 := C6.free 2))
    have E6 := (((C6).set 0 (.string ⟨#[]⟩)).set 1 (.string ⟨#[]⟩)).set 2 (.bool false)
    have e0 := E6.cell 0
    have e1 := E6.cell 1
    have e2 := E6.cell 2
    refine bodyPost_ret (v := .tuple #[.agg #[.string ⟨#[]⟩, .string ⟨#[]⟩, .bool false], .bool false, .nilIface]) (by simp [results, go_sem, e0, e1, e2]) rfl ⟨rfl, (((hx0.trans (hx1.trans hx2)).set (p := ⟨w.heap.size + 1, 0, none⟩) (by show w.heap.size ≤ w.heap.size + 1; omega) _).set (p := ⟨w.heap.size + 1, 1, none⟩) (by show w.heap.size ≤ w.heap.size + 1; omega) _).set (p := ⟨w.heap.size + 1, 2, none⟩) (by show w.heap.size ≤ w.heap.size + 1; omega) _⟩
end Go.Proofs.YtjeinblcpejpnabGreatDoor

/- Tables: what Write leaves on a chip that nothing hinders. -/
namespace Go.Proofs.YtjeinblcpejpnabGreatDoor
open Go.RowKit Go.WideShapes

/-- Nothing hinders a step in block b. -/
structure Fine (M : CM) (b : Nat) : Prop where
  pend : M.pend = none
  bd : M.bd b = false
  wk : M.wk b = false
  left : M.left = -1
theorem Fine.ready {M : CM} {b : Nat} (h : Fine M b) (hb : b < 24) : readyE M (b : Int) = 0 := by
  unfold readyE downB
  rw [h.pend, if_neg (by simp), if_pos ⟨by omega, by omega⟩]
  simp [h.bd]
theorem Fine.tick {M : CM} {b : Nat} (h : Fine M b) : tickM M = M := by
  unfold tickM; rw [if_neg (by rw [h.left]; decide)]
theorem Fine.write {M : CM} {b : Nat} (h : Fine M b) (hb : b < 24) (s : ByteArray) (hs : s.size ≤ 64) (hl : (M.pg b).length < 8) : writeE M (b : Int) s = 0 ∧ writeM M (b : Int) s = layM M b (.whole (padD s)) := by
  have h8 : ¬ (M.pg b).length = 8 := by omega
  have hl0 : ¬ M.left = 0 := by rw [h.left]; decide
  have hs' : ¬ 64 < s.size := by omega
  unfold writeE writeM
  simp only [h.ready hb, not_true_eq_false, if_false, hs', Int.toNat_natCast, h8, h.wk, hl0, h.tick]
  simp
theorem Fine.erase {M : CM} {b : Nat} (h : Fine M b) (hb : b < 24) : eraseE M (b : Int) = 0 ∧ eraseM M (b : Int) = wipeM M b [] := by
  have hl0 : ¬ M.left = 0 := by rw [h.left]; decide
  unfold eraseE eraseM
  simp only [h.ready hb, not_true_eq_false, if_false, Int.toNat_natCast, h.wk, hl0, h.tick]
  simp
theorem Fine.lay {M : CM} {b : Nat} (h : Fine M b) (c : Nat) (p : Pg) : Fine (layM M c p) b := ⟨h.pend, h.bd, h.wk, h.left⟩
theorem Fine.wipe {M : CM} {b : Nat} (h : Fine M b) (c : Nat) (l : List Pg) : Fine (wipeM M c l) b := ⟨h.pend, h.bd, h.wk, h.left⟩
theorem goW_fine {b : Nat} (hb : b < 24) : ∀ (ps : List (List Ent)) (M : CM), Fine M b → (M.pg b).length + ps.length ≤ 8 → (∀ p ∈ ps, bytesT p = (encT p, 0) ∧ (encT p).length ≤ 64) →
    (goW (b : Int) M ps).2 = 0 ∧ Fine (goW (b : Int) M ps).1 b ∧ (goW (b : Int) M ps).1.pg b = M.pg b ++ ps.map (fun p => Pg.whole (padD (txt (encT p)))) ∧ (∀ c, c ≠ b → (goW (b : Int) M ps).1.pg c = M.pg c) ∧ (goW (b : Int) M ps).1.bd = M.bd ∧ (goW (b : Int) M ps).1.wk = M.wk ∧ (goW (b : Int) M ps).1.wr = M.wr
  | [], M, h, _, _ => ⟨rfl, h, by simp [goW], fun _ _ => rfl, rfl, rfl, rfl⟩
  | p :: ps, M, h, hl, hp => by
    obtain ⟨h1, h2⟩ := hp p (List.mem_cons_self ..)
    have hs : (txt (encT p)).size ≤ 64 := by
      show (encT p).toArray.size ≤ 64
      simpa using h2
    have hlen : (M.pg b).length < 8 := by simp at hl; omega
    obtain ⟨w1, w2⟩ := h.write hb (txt (encT p)) hs hlen
    have hg : goW (b : Int) M (p :: ps) = goW (b : Int) (layM M b (.whole (padD (txt (encT p))))) ps := by
      simp only [goW]
      rw [h1, if_neg (by simp), if_neg (by simp [w1]), w2]
    rw [hg]
    obtain ⟨g1, g2, g3, g4, g5, g6, g7⟩ := goW_fine hb ps (layM M b (.whole (padD (txt (encT p))))) (h.lay b _) (by simp [layM, upd_same] at *; omega) (fun q hq => hp q (List.mem_cons_of_mem _ hq))
    refine ⟨g1, g2, ?_, fun c hc => ?_, g5, g6, g7⟩
    · rw [g3]; simp [layM, upd_same]
    · rw [g4 c hc]; simp [layM, upd, hc]
theorem encT_le {p : List Ent} (h : ∀ e ∈ p, faultE e = 0) (hl : p.length ≤ 2) : (encT p).length ≤ 64 := by
  have := flat_le p h
  simp [encT] at *
  omega
/-- A table is written where nothing hinders it. -/
theorem writeT_fine {M : CM} {b : Nat} {es : List Ent} (h : Fine M b) (hb : b < 24) (hz : tabF es = 0) :
    (writeT M (b : Int) es).2 = 0 ∧ TabAt (writeT M (b : Int) es).1 b es ∧ Fine (writeT M (b : Int) es).1 b ∧ (∀ c, c ≠ b → (writeT M (b : Int) es).1.pg c = M.pg c) ∧ (writeT M (b : Int) es).1.bd = M.bd ∧ (writeT M (b : Int) es).1.wk = M.wk ∧ (writeT M (b : Int) es).1.wr = upd M.wr b (M.wr b + 1) := by
  obtain ⟨e1, e2⟩ := h.erase hb
  have h1 := h.wipe b []
  obtain ⟨w1, w2⟩ := h1.write hb (headT es) (by rw [headT_size]; decide) (by simp [wipeM, upd_same])
  have hW : writeT M (b : Int) es = goW (b : Int) (layM (wipeM M b []) b (.whole (padD (headT es)))) (partsE 2 es) := by
    unfold writeT
    rw [if_neg (by simp [hz]), if_neg (by simp [e1]), e2, if_neg (by simp [w1]), w2]
  rw [hW]
  have h14 := (tabF_zero hz).2.1
  have hps : ∀ p ∈ partsE 2 es, bytesT p = (encT p, 0) ∧ (encT p).length ≤ 64 := fun p hp => by
    obtain ⟨k, _, rfl⟩ := List.mem_map.1 hp
    have hf : ∀ e ∈ partE 2 es k, faultE e = 0 := fun e he => tabF_fault hz e (part_mem he)
    have hl : (partE 2 es k).length ≤ 2 := by rw [partE_len]; unfold partL; omega
    exact ⟨bytesT_part hf hl, encT_le hf hl⟩
  obtain ⟨g1, g2, g3, g4, g5, g6, g7⟩ := goW_fine hb (partsE 2 es) (layM (wipeM M b []) b (.whole (padD (headT es)))) (h1.lay b _) (by simp [layM, wipeM, upd_same, parts_len]; omega) hps
  refine ⟨g1, ⟨hz, hb, ?_⟩, g2, fun c hc => ?_, g5, g6, g7⟩
  · rw [g3]; simp [layM, wipeM, upd_same]
  · rw [g4 c hc]; simp [layM, wipeM, upd, hc]
theorem newM_fine (b : Nat) : Fine newM b := ⟨rfl, rfl, rfl, rfl⟩
end Go.Proofs.YtjeinblcpejpnabGreatDoor
