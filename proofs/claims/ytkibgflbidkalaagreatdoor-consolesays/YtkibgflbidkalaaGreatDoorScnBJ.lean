/- ScnA ScnB. -/
import Derived.Test.YtkibgflbidkalaaGreatDoorTopKJ
import Derived.Test.YtkibgflbidkalaaGreatDoorTabHJ

/- Rows, some at a time: how they are searched. -/
namespace Go.Proofs.YtkibgflbidkalaaGreatDoor
open Go.RowKit Go.WideShapes
attribute [local go_sem ↓] Go.wp_at_zero Go.wp_at_succ

theorem gt_less (a b : ByteArray) : (!Op.bytesLess a.toList b.toList && !(a.toList == b.toList)) = Op.bytesLess b.toList a.toList := by
  rcases Lt.tri a b with h | rfl | h
  · rw [h.less, Lt.nless h.asymm]; rfl
  · rw [Lt.nless (Lt.irrefl _)]; simp
  · rw [Lt.nless h.asymm, beq_ne h.ne.symm, h.less]; rfl
def gtK (es : List Ent) (key : ByteArray) (i : Nat) : Bool := match es[i]? with
  | none => true
  | some e => Op.bytesLess key.toList e.key.toList
set_option maxRecDepth 20000 in
set_option maxHeartbeats 1000000 in
theorem sPage1_any (lb kb i : Nat) (es : List Ent) (key : ByteArray) (w : World) (h : Clo w lb kb es key) (hi : i < es.length) :
    Calls Tryz.prog 140 #[.int .i64 (i : Int), .pointer (some ⟨lb, 0, none⟩), .pointer (some ⟨kb, 0, none⟩)] w fun e w' => e = .returned (.bool (gtK es key i)) ∧ Ext w w' := by
  obtain ⟨ao, cap, h1, h2⟩ := h.l
  obtain ⟨b, off, ek, ev, eg, rfl, he, g1, g2, g3⟩ := h2.get hi
  have c1 : w.cell? ⟨lb, 0, none⟩ = some (.slice (some ⟨b, off, none⟩) es.length cap) := h1.cell 0
  have c2 : w.cell? ⟨kb, 0, none⟩ = some (.string key) := h.k.cell 0
  have hlb := h1.lt
  have hkb := h.k.lt
  have HK : Hid (gtK es key i = (Op.bytesLess key.toList ek.toList)) := by unfold gtK Hid; rw [he]
  clear he h1 h2 h g2 g3
  go_enter Tryz.func140, Tryz.ntmps140
  go_wp2_with fail
  go_quiet (fail)
  go_wp2_with fail
  go_ret
  exact ⟨by rw [HK.out]; exact congrArg (fun b => Ending.returned (.bool b)) (gt_less ek key), (Ext.refl w).drewN _⟩
set_option maxRecDepth 20000 in
set_option maxHeartbeats 1000000 in
theorem sPage_any (lb kb : Nat) (es : List Ent) (key : ByteArray) (w : World) (h : Clo w lb kb es key) (hl : es.length ≤ 1000) (hm : ∀ i j, i ≤ j → j < es.length → gtK es key i = true → gtK es key j = true) :
    Calls Tryz.prog 139 #[.int .i64 (es.length : Int), .func (.func 140) #[] #[.pointer (some ⟨lb, 0, none⟩), .pointer (some ⟨kb, 0, none⟩)]] w fun e w' => (∃ r : Nat, e = .returned (.int .i64 (r : Int)) ∧ From (gtK es key) es.length r) ∧ Ext w w' := by
  go_enter Tryz.func139, Tryz.ntmps139
  go_wp2_with fail
  go_loopw [5, 6] (fun a c wr => ∃ i j : Nat, a = .int .i64 i ∧ c = .int .i64 j ∧ i ≤ j ∧ j ≤ es.length ∧ (∀ t, t < i → gtK es key t = false) ∧ (∀ t, j ≤ t → t < es.length → gtK es key t = true) ∧ Ext w wr) (fun a c _ => (intOf c).toNat - (intOf a).toNat)
  case atStart => exact ⟨0, es.length, rfl, rfl, Nat.zero_le _, Nat.le_refl _, fun t ht => by omega, fun t h1 h2 => by omega, Ext.refl _⟩
  case round =>
    obtain ⟨i, j, rfl, rfl, hij, hj, hlo, hhi, hx⟩ := hrel
    by_cases hlt : i < j
    · obtain ⟨q, hq⟩ : ∃ q : Nat, q = (i + j) / 2 := ⟨_, rfl⟩
      have hq1 : i ≤ q := by omega
      have hq2 : q < j := by omega
      have hqI : ((i : Int) + (j : Int)) / 2 = (q : Int) := by omega
      have HC : Hid (Calls Tryz.prog 140 #[.int .i64 (q : Int), .pointer (some ⟨lb, 0, none⟩), .pointer (some ⟨kb, 0, none⟩)] wr fun e w' => e = .returned (.bool (gtK es key q)) ∧ Ext wr w') := sPage1_any lb kb q es key wr (h.ext hx) (by omega)
      have HLO : Hid (∀ t, t < i → gtK es key t = false) := hlo
      have HHI : Hid (∀ t, j ≤ t → t < es.length → gtK es key t = true) := hhi
      have HM : Hid (∀ i j, i ≤ j → j < es.length → gtK es key i = true → gtK es key j = true) := hm
      clear hlo hhi hm hq
      cases hp : gtK es key q with
      | true =>
        rw [hp] at HC
        go_wp2_with (go_at_call 140; refine HC.out.mono ?_; rintro e w2 ⟨rfl, hx2⟩)
        go_roundw
        case rel => exact ⟨i, q, rfl, rfl, hq1, by omega, HLO.out, fun t h1 h2 => HM.out q t h1 h2 hp, hx.trans hx2⟩
        case measure => simp [intOf]; omega
      | false =>
        rw [hp] at HC
        go_wp2_with (go_at_call 140; refine HC.out.mono ?_; rintro e w2 ⟨rfl, hx2⟩)
        go_roundw
        case rel =>
          have hlo2 : ∀ t, t < q + 1 → gtK es key t = false := fun t ht => by
            cases ht' : gtK es key t with
            | false => rfl
            | true =>
              have := HM.out t q (by omega) (by omega) ht'
              rw [hp] at this
              cases this
          exact ⟨q + 1, j, by go_num, rfl, by omega, hj, hlo2, HHI.out, hx.trans hx2⟩
        case measure => simp [intOf]; omega
    · have hij' : i = j := by omega
      subst hij'
      have HF : Hid (From (gtK es key) es.length i) := ⟨hj, hlo, hhi⟩
      clear hlo hhi hm
      go_wp2_with fail
      go_ret
      exact ⟨⟨i, rfl, HF.out⟩, hx⟩
theorem gtK_mono {es : List Ent} (hr : Ris es) (key : ByteArray) : ∀ i j, i ≤ j → j < es.length → gtK es key i = true → gtK es key j = true := fun i j hij hj h => by
  rcases Nat.lt_or_eq_of_le hij with h' | rfl
  · have hp := hr
    unfold Ris at hp
    rw [List.pairwise_iff_getElem] at hp
    have hl := hp i j (by omega) hj h'
    unfold gtK at h ⊢
    rw [List.getElem?_eq_getElem (by omega)] at h ⊢
    exact (show Lt key es[i].key from h).trans hl
  · exact h
theorem EntsAt.drop {w : World} {b off : Nat} {es : List Ent} (h : EntsAt w (some ⟨b, off, none⟩) es) (r : Nat) : EntsAt w (some ⟨b, off + r * 3, none⟩) (es.drop r) := fun hne => by
  obtain ⟨b', off', e, hc⟩ := h (fun e => hne (by rw [e]; simp))
  cases e
  refine ⟨b, off + r * 3, rfl, fun i x hx => ?_⟩
  rw [List.getElem?_drop] at hx
  have := hc _ x hx
  rw [show off + r * 3 + i * 3 = off + (r + i) * 3 by omega]
  exact this
theorem EntsAt.take {w : World} {ao : Option Addr} {es : List Ent} (h : EntsAt w ao es) (r : Nat) : EntsAt w ao (es.take r) := fun hne => by
  obtain ⟨b', off', e, hc⟩ := h (fun e => hne (by rw [e]; simp))
  refine ⟨b', off', e, fun i x hx => ?_⟩
  rw [List.getElem?_take] at hx
  split at hx
  · exact hc i x hx
  · cases hx
end Go.Proofs.YtkibgflbidkalaaGreatDoor

/- Rows, some at a time: Page. -/
namespace Go.Proofs.YtkibgflbidkalaaGreatDoor
open Go.RowKit Go.WideShapes

def pgE (R : List Ent) (after : ByteArray) (many : Int) : List Ent := (R.filter (fun e => Op.bytesLess after.toList e.key.toList)).take many.toNat
structure EntRet (w w' : World) (e : Ending) (es : List Ent) : Prop where
  ex : ∃ ao c, e = .returned (.tuple #[.slice ao es.length c, .nilIface]) ∧ EntsAt w' ao es ∧ Ext w w' ∧ ∀ p, ao = some p → w.heap.size ≤ p.block
theorem from_filter {es : List Ent} {p : Nat → Bool} {q : Ent → Bool} {r : Nat} (h : From p es.length r) (hpq : ∀ i e, es[i]? = some e → p i = q e) : es.drop r = es.filter q := by
  have e : es = es.take r ++ es.drop r := (List.take_append_drop r es).symm
  have h1 : (es.take r).filter q = [] := by
    rw [List.filter_eq_nil_iff]
    intro x hx
    obtain ⟨i, hi, hix⟩ := List.mem_iff_getElem.1 hx
    have hi' : i < r := by simp at hi; omega
    have hie : es[i]? = some x := by rw [List.getElem_take] at hix; rw [List.getElem?_eq_getElem (by simp at hi; omega), hix]
    rw [← hpq i x hie, h.lo i hi']
    decide
  have h2 : (es.drop r).filter q = es.drop r := by
    rw [List.filter_eq_self]
    intro x hx
    obtain ⟨i, hi, hix⟩ := List.mem_iff_getElem.1 hx
    rw [List.getElem_drop] at hix
    have hi' : r + i < es.length := by simp at hi; omega
    have hie : es[r + i]? = some x := by rw [List.getElem?_eq_getElem hi', hix]
    rw [← hpq _ x hie]
    exact h.hi _ (by omega) hi'
  conv => rhs; rw [e, List.filter_append, h1, h2]
  rfl
theorem Up.srows {n : Nat} {w : World} {S : List Nat} {sb cb : Nat} {m : Man} {k : Nat} {R : List Ent} (h : Up n w S sb cb m k R) :
    Calls Tryz.prog 138 #[.pointer (some ⟨sb, 0, none⟩)] w fun e w' => ∃ ro rc, e = .returned (.tuple #[.slice ro R.length rc, .nilIface]) ∧ R.length ≤ rc ∧ EntsAt w' ro R ∧ (∀ p, ro = some p → w.heap.size ≤ p.block ∧ ∃ cs, Blk w' p.block cs 56) ∧ Ext w w' := by
  obtain ⟨M, a, x, N, O, q1, hI, q3, _⟩ := h.ex
  refine (rows_any w S sb cb M m a x N O q1 hI.nst.up hI.nw hI.od hI.tn hI.told (by have := hI.few; have := hI.few'; omega) (by
      obtain ⟨g, _, hL⟩ := hI.lg
      have := hL.ris.2.2
      simp at this; omega)).mono fun _ _ hh => ?_
  rw [q3] at hh
  obtain ⟨v, rfl, hv⟩ := hh
  obtain ⟨ro, rc, rfl, r1, r2, r3, r4⟩ := hv.ex
  exact ⟨ro, rc, rfl, r1, r2, r3, r4⟩
set_option maxRecDepth 20000 in
set_option maxHeartbeats 1000000 in
theorem clipE_any (ao : Option Addr) (n c : Nat) (w : World) (hn : n ≤ c) : Calls Tryz.prog 141 #[.slice ao n c] w fun e w' => e = .returned (.slice ao n n) ∧ w = w' := by
  cases ao with
  | none =>
    go_enter Tryz.func141, Tryz.ntmps141
    go_wp2
    go_ret
    exact ⟨rfl, rfl⟩
  | some p =>
    go_enter Tryz.func141, Tryz.ntmps141
    go_wp2
    go_ret
    exact ⟨rfl, rfl⟩
theorem add3 (b off k : Nat) : (⟨b, off, none⟩ : Addr).add k = ⟨b, off + k, none⟩ := by unfold Addr.add; by_cases h : k = 0 <;> simp [h]
theorem add_blk (a : Addr) (k : Nat) : (a.add k).block = a.block := by unfold Addr.add; by_cases h : k = 0 <;> simp [h]
theorem page_ret {W : World} {R : List Ent} {after : ByteArray} {many : Int} {r : Nat} {ro : Option Addr} (hF : From (gtK R after) R.length r) (hE : EntsAt W ro R) : (pgE R after many).length = (max 0 (min many ((R.length - r : Nat) : Int))).toNat ∧ EntsAt W (Option.map (fun x => x.add (r * 3)) ro) (pgE R after many) := by
  have e : pgE R after many = (R.drop r).take many.toNat := by
    unfold pgE
    rw [from_filter hF (fun i e he => by unfold gtK; rw [he])]
  rw [e]
  refine ⟨by simp; omega, fun hne => ?_⟩
  have hR : R ≠ [] := fun h => hne (by rw [h]; simp)
  obtain ⟨b, off, rfl, _⟩ := hE hR
  have := (hE.drop r).take many.toNat
  rw [Option.map_some, add3]
  exact this hne
set_option maxRecDepth 20000 in
set_option maxHeartbeats 2000000 in
theorem page_any (n : Nat) (w : World) (S : List Nat) (sb cb : Nat) (m : Man) (k : Nat) (R : List Ent) (after : ByteArray) (many : Int) (h : Up n w S sb cb m k R) :
    Calls Tryz.prog 100 #[.pointer (some ⟨sb, 0, none⟩), .string after, .int .i64 many] w fun e w' => EntRet w w' e (pgE R after many) := by
  have hfew := h.few
  have HR : Hid (∀ W, Ext w W → Calls Tryz.prog 138 #[.pointer (some ⟨sb, 0, none⟩)] W fun e w' => ∃ ro rc, e = .returned (.tuple #[.slice ro R.length rc, .nilIface]) ∧ R.length ≤ rc ∧ EntsAt w' ro R ∧ (∀ p, ro = some p → W.heap.size ≤ p.block ∧ ∃ cs, Blk w' p.block cs 56) ∧ Ext W w') := fun W hx => (h.ext hx).srows
  have HS : Hid (∀ W lb kb, Clo W lb kb R after → Calls Tryz.prog 139 #[.int .i64 (R.length : Int), .func (.func 140) #[] #[.pointer (some ⟨lb, 0, none⟩), .pointer (some ⟨kb, 0, none⟩)]] W fun e w' => (∃ r : Nat, e = .returned (.int .i64 (r : Int)) ∧ From (gtK R after) R.length r) ∧ Ext W w') := fun W lb kb hc => sPage_any lb kb R after W hc (by omega) (gtK_mono h.plain.1 after)
  have HCL : Hid (∀ ao n c W, n ≤ c → Calls Tryz.prog 141 #[.slice ao n c] W fun e w' => e = .returned (.slice ao n n) ∧ W = w') := fun ao n c W hn => clipE_any ao n c W hn
  have HPR : Hid (∀ W r ro, From (gtK R after) R.length r → EntsAt W ro R → (pgE R after many).length = (max 0 (min many ((R.length - r : Nat) : Int))).toNat ∧ EntsAt W (Option.map (fun x => x.add (r * 3)) ro) (pgE R after many)) := fun W r ro h1 h2 => page_ret h1 h2
  clear h
  go_enter Tryz.func100, Tryz.ntmps100
  go_wp2_with (first
    | (go_at_call 138; refine (HR.out _ ((Ext.refl _).alloc _)).mono ?_; rintro e w1 ⟨ro, rc, rfl, hrc, hE1, hN1, hx1⟩; have hB1 := Blk.ext hx1 (Blk.new w #[.string after] 9); have hC1 : Clo (w1.alloc (.cells #[.slice ro R.length rc] 31)) w1.heap.size w.heap.size R after := ⟨⟨ro, rc, Blk.new _ _ _, hE1.ext2 ((Ext.refl _).alloc _)⟩, hB1.alloc _⟩)
    | (go_at_call 139; refine (HS.out _ _ _ hC1).mono ?_; rintro e w2 ⟨⟨r, rfl, hF2⟩, hx2⟩; have hL2 : w2.cell? ⟨w1.heap.size, 0, none⟩ = some (.slice ro R.length rc) := ((Blk.new w1 #[.slice ro R.length rc] 31).ext hx2).cell 0; have hrl := hF2.le)
    | (go_at_call 141; refine (HCL.out _ _ _ _ (by omega)).mono ?_; rintro e w3 ⟨rfl, rfl⟩))
  · subst h
    go_ret2
    obtain ⟨p1, p2⟩ := HPR.out w2 rc ro hF2 (hE1.ext2 ((Ext.refl _).alloc _ |>.trans hx2))
    have hX : Ext w w2 := (((Ext.refl w).alloc _).trans hx1).trans (((Ext.refl _).alloc _).trans hx2)
    have p3 : (pgE R after many).length = 0 := by rw [p1]; omega
    exact ⟨ro, _, by rw [p1]; rfl, (fun hne => absurd (List.eq_nil_of_length_eq_zero p3) hne), hX, fun p e => by have := (hN1 p e).1; simp at this; omega⟩
  · go_ret2
    obtain ⟨p1, p2⟩ := HPR.out w2 r ro hF2 (hE1.ext2 ((Ext.refl _).alloc _ |>.trans hx2))
    have hX : Ext w w2 := (((Ext.refl w).alloc _).trans hx1).trans (((Ext.refl _).alloc _).trans hx2)
    refine ⟨_, _, by rw [p1]; rfl, p2, hX, fun p e => ?_⟩
    cases ro with
    | none => cases e
    | some x =>
      cases e
      have := (hN1 x rfl).1
      rw [add_blk]
      simp at this
      omega
end Go.Proofs.YtkibgflbidkalaaGreatDoor
