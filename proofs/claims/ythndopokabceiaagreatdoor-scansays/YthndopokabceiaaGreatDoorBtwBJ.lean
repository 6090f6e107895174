/- BtwB. -/
import Derived.Test.YthndopokabceiaaGreatDoorBtwAJ

/- Rows between two keys: Between. -/
namespace Go.Proofs.YthndopokabceiaaGreatDoor
open Go.RowKit Go.WideShapes

/-- Is an entry from a key on, and ahead of one? -/
def btwQ (fk tk : ByteArray) (e : Ent) : Bool := !Op.bytesLess e.key.toList fk.toList && (tk.toList == [] || Op.bytesLess e.key.toList tk.toList)
/-- Rows between two keys, backwards. -/
def btwE (R : List Ent) (fk tk : ByteArray) : List Ent := (R.filter (btwQ fk tk)).reverse
theorem ris_take {R : List Ent} (h : Ris R) (r : Nat) : Ris (R.take r) := List.Pairwise.sublist (List.take_sublist r R) h
theorem from_take {es : List Ent} {p : Nat → Bool} {q : Ent → Bool} {r : Nat} (h : From p es.length r) (hpq : ∀ i e, es[i]? = some e → p i = q e) : es.take r = es.filter (fun e => !q e) := by
  have e : es = es.take r ++ es.drop r := (List.take_append_drop r es).symm
  have h1 : (es.take r).filter (fun e => !q e) = es.take r := by
    rw [List.filter_eq_self]
    intro x hx
    obtain ⟨i, hi, hix⟩ := List.mem_iff_getElem.1 hx
    have hi' : i < r := by simp at hi; omega
    have hie : es[i]? = some x := by rw [List.getElem_take] at hix; rw [List.getElem?_eq_getElem (by simp at hi; omega), hix]
    rw [← hpq i x hie, h.lo i hi']
    rfl
  have h2 : (es.drop r).filter (fun e => !q e) = [] := by
    rw [List.filter_eq_nil_iff]
    intro x hx
    obtain ⟨i, hi, hix⟩ := List.mem_iff_getElem.1 hx
    rw [List.getElem_drop] at hix
    have hi' : r + i < es.length := by simp at hi; omega
    have hie : es[r + i]? = some x := by rw [List.getElem?_eq_getElem hi', hix]
    rw [← hpq _ x hie, h.hi _ (by omega) hi']
    decide
  conv => rhs; rw [e, List.filter_append, h1, h2]
  simp
theorem btw_all {R : List Ent} {fk tk : ByteArray} {r : Nat} (ht : tk.toList = []) (h : From (geK R fk) R.length r) : (R.drop r).reverse = btwE R fk tk := by
  unfold btwE
  rw [from_filter h (q := fun e => !Op.bytesLess e.key.toList fk.toList) (fun i e he => by unfold geK; rw [he])]
  congr 1
  apply List.filter_congr
  intro e _
  unfold btwQ
  simp [ht]
theorem btw_cut {R : List Ent} {fk tk : ByteArray} {r t : Nat} (ht : ¬ tk.toList = []) (h1 : From (geK R tk) R.length t) (h : From (geK (R.take t) fk) (R.take t).length r) : ((R.take t).drop r).reverse = btwE R fk tk := by
  unfold btwE
  rw [from_filter h (q := fun e => !Op.bytesLess e.key.toList fk.toList) (fun i e he => by unfold geK; rw [he]), from_take h1 (q := fun e => !Op.bytesLess e.key.toList tk.toList) (fun i e he => by unfold geK; rw [he]), List.filter_filter]
  congr 1
  apply List.filter_congr
  intro e _
  unfold btwQ
  have : (tk.toList == []) = false := by rw [beq_eq_false_iff_ne]; exact ht
  rw [this]
  simp
theorem EntsAt.dropM {W : World} {ao : Option Addr} {es : List Ent} (hE : EntsAt W ao es) (r : Nat) : EntsAt W (Option.map (fun x => x.add (r * 3)) ao) (es.drop r) := fun hne => by
  have hR : es ≠ [] := fun h => hne (by rw [h]; simp)
  obtain ⟨b, off, rfl, _⟩ := hE hR
  rw [Option.map_some, add3]
  exact hE.drop r hne
/-- A list of entries that lies behind w0, and may be written. -/
structure FrE (w0 w : World) (ao : Option Addr) (es : List Ent) : Prop where
  at_ : EntsAt w ao es
  new : ∀ p, ao = some p → w0.heap.size ≤ p.block ∧ ∃ cs, Blk w p.block cs 49
  x : Ext w0 w
theorem FrE.more {w0 w w' : World} {ao : Option Addr} {es : List Ent} (h : FrE w0 w ao es) (hx : Ext w w') : FrE w0 w' ao es :=
  ⟨h.at_.ext hx, fun p hp => ⟨(h.new p hp).1, by obtain ⟨cs, hc⟩ := (h.new p hp).2; exact ⟨cs, hc.ext hx⟩⟩, h.x.trans hx⟩
theorem FrE.take {w0 w : World} {ao : Option Addr} {es : List Ent} (h : FrE w0 w ao es) (t : Nat) : FrE w0 w ao (es.take t) := ⟨h.at_.take t, h.new, h.x⟩
theorem FrE.drop {w0 w : World} {ao : Option Addr} {es : List Ent} (h : FrE w0 w ao es) (r : Nat) : FrE w0 w (Option.map (fun x => x.add (r * 3)) ao) (es.drop r) := ⟨h.at_.dropM r, fun p hp => by
  cases ao with
  | none => cases hp
  | some q => cases hp; rw [add_blk]; exact h.new q rfl, h.x⟩
theorem FrE.cut {w0 w : World} {ao : Option Addr} {es : List Ent} (h : FrE w0 w ao es) {r c : Nat} (h1 : es.length ≤ c) : FrE w0 w (if c = r then ao else Option.map (fun x => x.add (r * 3)) ao) (es.drop r) := by
  split
  · rename_i hc
    rw [List.drop_eq_nil_of_le (by omega)]
    exact ⟨fun h => absurd rfl h, h.new, h.x⟩
  · exact h.drop r
theorem FrE.rev {w0 w : World} {ao : Option Addr} {es : List Ent} (h : FrE w0 w ao es) (cap : Nat) (hl : es.length ≤ 1000) :
    Calls Tryz.prog 85 #[.slice ao es.length cap] w fun e w' => e = .returned (.tuple #[]) ∧ EntsAt w' ao es.reverse ∧ Ext w0 w' :=
  (revE_any ao cap es w h.at_ hl (fun p hp i => by obtain ⟨cs, hc⟩ := (h.new p hp).2; exact hc.free i)).mono fun e w' hh => ⟨hh.1, hh.2.1, hh.2.2 w0 h.x fun p hp => (h.new p hp).1⟩
set_option maxRecDepth 20000 in
set_option maxHeartbeats 4000000 in
theorem between_any (n : Nat) (w : World) (S : List Nat) (sb cb : Nat) (m : Man) (k : Nat) (R : List Ent) (fk tk : ByteArray) (h : Up n w S sb cb m k R) :
    Calls Tryz.prog 47 #[.pointer (some ⟨sb, 0, none⟩), .string fk, .string tk] w fun e w' => EntRet w w' e (btwE R fk tk) := by
  have hfew := h.few
  have HR : Hid (Calls Tryz.prog 33 #[.pointer (some ⟨sb, 0, none⟩)] w fun e w' => ∃ ro rc, e = .returned (.tuple #[.slice ro R.length rc, .nilIface]) ∧ R.length ≤ rc ∧ FrE w w' ro R) := h.srows.mono fun _ w' hh => by
    obtain ⟨ro, rc, h1, h2, h3, h4, h5⟩ := hh
    exact ⟨ro, rc, h1, h2, ⟨h3, h4, h5⟩⟩
  have HRis : Hid (Ris R) := h.plain.1
  have HNB : Hid (∀ (ao : Option Addr) cap es key W, EntsAt W ao es → es.length ≤ 40 → Ris es → Calls Tryz.prog 84 #[.slice ao es.length cap, .string key] W fun e w' => ∃ r : Nat, e = .returned (.int .i64 (r : Int)) ∧ From (geK es key) es.length r ∧ Ext W w') := fun ao cap es key W h1 h2 h3 => notBelow_any ao cap es key W h1 (by omega) h3
  have HRV : Hid (∀ W ao es cap, FrE w W ao es → es.length ≤ 40 → Calls Tryz.prog 85 #[.slice ao es.length cap] W fun e w' => e = .returned (.tuple #[]) ∧ EntsAt w' ao es.reverse ∧ Ext w w') := fun W ao es cap h1 h2 => h1.rev cap (by omega)
  have HCL : Hid (∀ ao n c W, n ≤ c → Calls Tryz.prog 83 #[.slice ao n c] W fun e w' => e = .returned (.slice ao n n) ∧ W = w') := fun ao n c W hn => clipE_any ao n c W hn
  clear h
  by_cases ht : tk.toList = []
  · have ht' : tk.toList.isEmpty = true := by rw [List.isEmpty_iff]; exact ht
    have HB : Hid (∀ r, From (geK R fk) R.length r → (R.drop r).reverse = btwE R fk tk) := fun r hr => btw_all ht hr
    clear ht
    generalize btwE R fk tk = res at *
    go_enter Tryz.func47, Tryz.ntmps47
    go_upto_region 7 with (first
      | (go_at_call 33; refine HR.out.mono ?_; rintro e w1 ⟨ro, rc, rfl, hrc, hE1⟩)
      | (go_at_call 84; refine (HNB.out _ _ R _ _ hE1.at_ hfew HRis.out).mono ?_; rintro e w2 ⟨r, rfl, hF2, hx2⟩; have hrl := hF2.le))
    have hcap : (R.drop r).length ≤ rc - r := by simp; omega
    have hlen : R.length - r = (R.drop r).length := by simp
    have HFR : FrE w w2 (if rc = r then ro else Option.map (fun x => x.add (r * 3)) ro) (R.drop r) := (hE1.more hx2).cut hrc
    have hd40 : (R.drop r).length ≤ 40 := by simp; omega
    have HBR := HB.out r hF2
    clear hF2 hE1 hx2 HB HR HRis HNB hrl hrc hfew
    rw [hlen]
    generalize (if rc = r then ro else Option.map (fun x => x.add (r * 3)) ro) = aa at *
    generalize rc - r = cc at *
    clear hlen
    generalize R.drop r = D at *
    subst HBR
    go_wp2_with (first
      | (go_at_call 85; refine (HRV.out _ _ D _ HFR hd40).mono ?_; rintro e w3 ⟨rfl, hE3, hx3⟩)
      | (go_at_call 83; refine (HCL.out _ _ _ _ hcap).mono ?_; rintro e w4 ⟨rfl, rfl⟩))
    go_ret2
    exact ⟨aa, _, by rw [List.length_reverse]; rfl, hE3, hx3, fun p hp => (HFR.new p hp).1⟩
  · have ht' : tk.toList.isEmpty = false := by rw [List.isEmpty_eq_false_iff]; exact ht
    have HB : Hid (∀ t r, From (geK R tk) R.length t → From (geK (R.take t) fk) (R.take t).length r → ((R.take t).drop r).reverse = btwE R fk tk) := fun t r h1 h2 => btw_cut ht h1 h2
    clear ht
    generalize btwE R fk tk = res at *
    have t1 : True := trivial
    go_enter Tryz.func47, Tryz.ntmps47
    go_upto_region 6 with (first
      | (go_at_call 33; refine HR.out.mono ?_; rintro e w1 ⟨ro, rc, rfl, hrc, hE1⟩)
      | (go_at_call 84; refine (HNB.out _ _ R _ _ hE1.at_ hfew HRis.out).mono ?_; rintro e w2 ⟨t, rfl, hF2, hx2⟩; have htl := hF2.le))
    have hlt : t = (R.take t).length := by simp; omega
    have HFT : FrE w w2 ro (R.take t) := (hE1.more hx2).take t
    have hRT : Ris (R.take t) := ris_take HRis.out t
    have hT40 : (R.take t).length ≤ 40 := by simp; omega
    have hTc : (R.take t).length ≤ rc := by simp; omega
    have HBT := fun r => HB.out t r hF2
    clear hF2 hE1 hx2 HB HR HRis htl hrc hfew
    generalize R.take t = T at *
    subst hlt
    go_upto_region 7 with (go_at_call 84; refine (HNB.out _ _ T _ _ HFT.at_ hT40 hRT).mono ?_; rintro e w3 ⟨r, rfl, hF3, hx3⟩; have hrl := hF3.le)
    have hcap : (T.drop r).length ≤ rc - r := by simp; omega
    have hlen : T.length - r = (T.drop r).length := by simp
    have HFR : FrE w w3 (if rc = r then ro else Option.map (fun x => x.add (r * 3)) ro) (T.drop r) := (HFT.more hx3).cut hTc
    have hd40 : (T.drop r).length ≤ 40 := by simp; omega
    have HBR := HBT r hF3
    clear hF3 HFT hx3 HBT HNB hrl hTc hT40 hRT
    rw [hlen]
    generalize (if rc = r then ro else Option.map (fun x => x.add (r * 3)) ro) = aa at *
    generalize rc - r = cc at *
    clear hlen
    generalize T.drop r = D at *
    subst HBR
    go_wp2_with (first
      | (go_at_call 85; refine (HRV.out _ _ D _ HFR hd40).mono ?_; rintro e w4 ⟨rfl, hE3, hx4⟩)
      | (go_at_call 83; refine (HCL.out _ _ _ _ hcap).mono ?_; rintro e w5 ⟨rfl, rfl⟩))
    go_ret2
    exact ⟨aa, _, by rw [List.length_reverse]; rfl, hE3, hx4, fun p hp => (HFR.new p hp).1⟩
end Go.Proofs.YthndopokabceiaaGreatDoor
