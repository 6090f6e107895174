
/- Manifests: what is written is read. -/
import Derived.Test.YtpldeejagomfjaaManE
namespace Go.Proofs.Ytpldeejagomfjaa
open Go.RowKit Go.WideShapes

theorem numsOf_byt {l : List Int} (h : ∀ x ∈ l, 2 ≤ x ∧ x < 24) : numsOf (l.map byt) = l := by
  induction l with
  | nil => rfl
  | cons x r ih =>
    have hx := h x (by simp)
    obtain ⟨n, rfl⟩ := Int.eq_ofNat_of_zero_le (show 0 ≤ x by omega)
    show ((byt (n : Int)).toNat : Int) :: numsOf (r.map byt) = _
    rw [byt_nat n (by omega), ih (fun y hy => h y (by simp [hy]))]
theorem encM_size (E G : Int) (nw od : List Int) (z : Nat) : (txtM (encM E G nw od ++ List.replicate z 0)).size = 7 + nw.length + od.length + z := by
  rw [Lib.size_eq]; simp [txtM, encM]; omega
theorem extM_data (l : List UInt8) (i j : Nat) : ((txtM l).extract i j).data.toList = (l.drop i).take (j - i) := by
  rw [Lib.extract_data]; rfl

theorem parse_encM (E G : Nat) (nw od : List Int) (z : Nat) (w : World) (hz : z ≤ 31) (hf : manF (E : Int) (G : Int) nw od = 0) :
    Calls Try.prog 72 #[.string (txtM (encM (E : Int) (G : Int) nw od ++ List.replicate z 0))] w fun e w' => ∃ a1 c1 a2 c2, e = .returned (.tuple #[.agg #[.int .i64 (E : Int), .int .i64 (G : Int), .slice a1 nw.length c1, .slice a2 od.length c2], .nilIface]) ∧ NumsAt w' a1 nw ∧ NumsAt w' a2 od ∧ Ext w w' := by
  obtain ⟨hE, hS⟩ := manF_zero hf
  obtain ⟨hr, hnd, _⟩ := scan_zero hS
  have h24 := nodup_le hr hnd
  have hG := hr (G : Int) (by simp)
  have hrn : ∀ x ∈ nw, 2 ≤ x ∧ x < 24 := fun x hx => hr x (by simp [hx])
  have hro : ∀ x ∈ od, 2 ≤ x ∧ x < 24 := fun x hx => hr x (by simp [hx])
  have hle : nw.length + od.length ≤ 23 := by simp at h24; omega
  have hsz := encM_size (E : Int) (G : Int) nw od z
  have en : (UInt8.ofNat nw.length).toNat = nw.length := by simp; omega
  have eo : (UInt8.ofNat od.length).toNat = od.length := by simp; omega
  have x1 : ((byt ((E : Int) % 256)).toNat : Int) = (E : Int) % 256 := by
    have := byt_nat (E % 256) (by omega); simpa using this
  have x2 : ((byt ((E : Int) / 256 % 256)).toNat : Int) = (E : Int) / 256 % 256 := by
    have := byt_nat (E / 256 % 256) (by omega); simpa using this
  have x3 : ((byt ((E : Int) / 65536)).toNat : Int) = (E : Int) / 65536 := by
    have := byt_nat (E / 65536) (by omega); simpa using this
  have x4 := byt_nat G (by omega)
  have := parseM_in (txtM (encM (E : Int) (G : Int) nw od ++ List.replicate z 0)) w (byt ((E : Int) % 256)) (byt ((E : Int) / 256 % 256)) (byt ((E : Int) / 65536)) (byt (G : Int)) (UInt8.ofNat nw.length) (UInt8.ofNat od.length)
    (by omega) (by omega) rfl rfl rfl rfl rfl rfl rfl (by omega)
  rw [en, eo, x1, x2, x3, x4, extM_data, extM_data] at this
  have d1 : ((encM (E : Int) (G : Int) nw od ++ List.replicate z 0).drop 7).take (7 + nw.length - 7) = nw.map byt := by
    rw [show 7 + nw.length - 7 = (nw.map byt).length by simp]; simp [encM, -List.length_map]
  have d2 : ((encM (E : Int) (G : Int) nw od ++ List.replicate z 0).drop (7 + nw.length)).take (7 + nw.length + od.length - (7 + nw.length)) = od.map byt := by
    rw [← List.drop_drop, show 7 + nw.length + od.length - (7 + nw.length) = (od.map byt).length by simp, show nw.length = (nw.map byt).length by simp]; simp [encM, -List.length_map]
  rw [d1, d2, numsOf_byt hrn, numsOf_byt hro, show (E : Int) % 256 + 256 * ((E : Int) / 256 % 256) + 65536 * ((E : Int) / 65536) = (E : Int) by omega] at this
  refine this.mono ?_
  rintro e w' (⟨_, a1, c1, a2, c2, h1, h2, h3, h4⟩ | ⟨h, _⟩)
  · exact ⟨a1, c1, a2, c2, h1, h2.at, h3.at, h4⟩
  · exact absurd hf h

set_option maxHeartbeats 400000 in
theorem lightM_yes (ep lg : Int) (no oo : Option Addr) (nc oc : Nat) (nw od : List Int) (w : World) (h1 : nw.length ≤ 30) (h2 : od.length ≤ 30) :
    Calls Try.prog 69 #[.agg #[.int .i64 ep, .int .i64 lg, .slice no nw.length nc, .slice oo od.length oc]] w fun e w' => e = .returned (.bool true) ∧ Ext w w' := by
  go_enter Try.func69, Try.ntmps69
  go_wp2
  go_ret
  exact ⟨by rw [decide_eq_true (show ((od.length : Int) ≤ 30) by omega)]; rfl, (Ext.refl w).alloc _⟩
set_option maxHeartbeats 400000 in
theorem lightM_no (ep lg : Int) (no oo : Option Addr) (nc oc : Nat) (nw od : List Int) (w : World) (h : ¬ (nw.length ≤ 30 ∧ od.length ≤ 30)) :
    Calls Try.prog 69 #[.agg #[.int .i64 ep, .int .i64 lg, .slice no nw.length nc, .slice oo od.length oc]] w fun e w' => e = .returned (.bool false) ∧ Ext w w' := by
  by_cases h1 : nw.length ≤ 30
  · have h2 : ¬ od.length ≤ 30 := fun k => h ⟨h1, k⟩
    clear h
    go_enter Try.func69, Try.ntmps69
    go_wp2
    go_ret
    exact ⟨by rw [decide_eq_false (show ¬ ((od.length : Int) ≤ 30) by omega)]; rfl, (Ext.refl w).alloc _⟩
  · clear h
    go_enter Try.func69, Try.ntmps69
    go_wp2
    go_ret
    exact ⟨rfl, (Ext.refl w).alloc _⟩

set_option maxHeartbeats 1000000 in
theorem sameM_any (ep lg ep' lg' : Int) (no oo no' oo' : Option Addr) (nc oc nc' oc' : Nat) (nw od : List Int) (w : World) (hl1 : nw.length ≤ 9223372036854775807) (hl2 : od.length ≤ 9223372036854775807) (h1 : NumsAt w no nw) (h2 : NumsAt w oo od) (h3 : NumsAt w no' nw) (h4 : NumsAt w oo' od) :
    Calls Try.prog 76 #[.agg #[.int .i64 ep, .int .i64 lg, .slice no nw.length nc, .slice oo od.length oc], .agg #[.int .i64 ep', .int .i64 lg', .slice no' nw.length nc', .slice oo' od.length oc']] w fun e w' => e = .returned (.bool (decide (ep = ep' ∧ lg = lg'))) ∧ Ext w w' := by
  have S1 : Hid (∀ W, Ext w W → Calls Try.prog 101 #[.slice no nw.length nc, .slice no' nw.length nc'] W fun e w' => e = .returned (.bool true) ∧ Ext W w') := fun W hx => by
    refine (sameNums_any no no' nc nc' nw W hl1 (h1.ext hx) (h3.ext hx)).mono ?_
    rintro e w' ⟨rfl, q, rfl⟩
    exact ⟨rfl, (Ext.refl W).drewN q⟩
  have S2 : Hid (∀ W, Ext w W → Calls Try.prog 101 #[.slice oo od.length oc, .slice oo' od.length oc'] W fun e w' => e = .returned (.bool true) ∧ Ext W w') := fun W hx => by
    refine (sameNums_any oo oo' oc oc' od W hl2 (h2.ext hx) (h4.ext hx)).mono ?_
    rintro e w' ⟨rfl, q, rfl⟩
    exact ⟨rfl, (Ext.refl W).drewN q⟩
  clear h1 h2 h3 h4
  have HA : Hid (∀ W, Ext ((w.alloc (.cells #[.int .i64 ep, .int .i64 lg, .slice no nw.length nc, .slice oo od.length oc] 100)).alloc (.cells #[.int .i64 ep', .int .i64 lg', .slice no' nw.length nc', .slice oo' od.length oc'] 100)) W → Blk W w.heap.size #[.int .i64 ep, .int .i64 lg, .slice no nw.length nc, .slice oo od.length oc] 100 ∧ Blk W (w.heap.size + 1) #[.int .i64 ep', .int .i64 lg', .slice no' nw.length nc', .slice oo' od.length oc'] 100) :=
    fun W hx => ⟨Blk.ext hx ((Blk.new _ _ _).alloc _), Blk.ext hx (Blk.new' _ _ _ (by simp))⟩
  have t1 : True := trivial
  have t2 : True := trivial
  by_cases he : ep = ep'
  · by_cases hg : lg = lg'
    · have hr : decide (ep = ep' ∧ lg = lg') = true := by simp [he, hg]
      rw [hr]; subst he hg
      go_enter Try.func76, Try.ntmps76
      go_wp2_with (first
        | (go_at_call 101; have _t := t1; refine (S1.out _ (((Ext.refl w).alloc _).alloc _)).mono ?_; rintro e w1 ⟨rfl, hx1⟩; clear t1; have a0 : _ = some (Value.int .i64 ep) := (HA.out _ hx1).1.cell 0; have a1 : _ = some (Value.int .i64 lg) := (HA.out _ hx1).1.cell 1; have b0 : _ = some (Value.int .i64 ep) := (HA.out _ hx1).2.cell 0; have b1 : _ = some (Value.int .i64 lg) := (HA.out _ hx1).2.cell 1; have a3 : _ = some (Value.slice oo od.length oc) := (HA.out _ hx1).1.cell 3; have b3 : _ = some (Value.slice oo' od.length oc') := (HA.out _ hx1).2.cell 3)
        | (go_at_call 101; have _t := t2; refine (S2.out _ ((((Ext.refl w).alloc _).alloc _).trans hx1)).mono ?_; rintro e w2 ⟨rfl, hx2⟩; clear t2; have a0 : _ = some (Value.int .i64 ep) := (HA.out _ (hx1.trans hx2)).1.cell 0; have a1 : _ = some (Value.int .i64 lg) := (HA.out _ (hx1.trans hx2)).1.cell 1; have b0 : _ = some (Value.int .i64 ep) := (HA.out _ (hx1.trans hx2)).2.cell 0; have b1 : _ = some (Value.int .i64 lg) := (HA.out _ (hx1.trans hx2)).2.cell 1))
      go_ret
      exact ⟨rfl, (((Ext.refl w).alloc _).alloc _).trans (hx1.trans hx2)⟩
    · have hr : decide (ep = ep' ∧ lg = lg') = false := by simp [hg]
      rw [hr]; subst he
      go_enter Try.func76, Try.ntmps76
      go_wp2_with (first
        | (go_at_call 101; have _t := t1; refine (S1.out _ (((Ext.refl w).alloc _).alloc _)).mono ?_; rintro e w1 ⟨rfl, hx1⟩; clear t1; have a0 : _ = some (Value.int .i64 ep) := (HA.out _ hx1).1.cell 0; have a1 : _ = some (Value.int .i64 lg) := (HA.out _ hx1).1.cell 1; have b0 : _ = some (Value.int .i64 ep) := (HA.out _ hx1).2.cell 0; have b1 : _ = some (Value.int .i64 lg') := (HA.out _ hx1).2.cell 1; have a3 : _ = some (Value.slice oo od.length oc) := (HA.out _ hx1).1.cell 3; have b3 : _ = some (Value.slice oo' od.length oc') := (HA.out _ hx1).2.cell 3)
        | (go_at_call 101; have _t := t2; refine (S2.out _ ((((Ext.refl w).alloc _).alloc _).trans hx1)).mono ?_; rintro e w2 ⟨rfl, hx2⟩; clear t2; have a0 : _ = some (Value.int .i64 ep) := (HA.out _ (hx1.trans hx2)).1.cell 0; have a1 : _ = some (Value.int .i64 lg) := (HA.out _ (hx1.trans hx2)).1.cell 1; have b0 : _ = some (Value.int .i64 ep) := (HA.out _ (hx1.trans hx2)).2.cell 0; have b1 : _ = some (Value.int .i64 lg') := (HA.out _ (hx1.trans hx2)).2.cell 1))
      go_ret
      exact ⟨rfl, (((Ext.refl w).alloc _).alloc _).trans (hx1.trans hx2)⟩
  · have hr : decide (ep = ep' ∧ lg = lg') = false := by simp [he]
    rw [hr]
    go_enter Try.func76, Try.ntmps76
    go_wp2_with (first
      | (go_at_call 101; have _t := t1; refine (S1.out _ (((Ext.refl w).alloc _).alloc _)).mono ?_; rintro e w1 ⟨rfl, hx1⟩; clear t1; have a0 : _ = some (Value.int .i64 ep) := (HA.out _ hx1).1.cell 0; have a1 : _ = some (Value.int .i64 lg) := (HA.out _ hx1).1.cell 1; have b0 : _ = some (Value.int .i64 ep') := (HA.out _ hx1).2.cell 0; have b1 : _ = some (Value.int .i64 lg') := (HA.out _ hx1).2.cell 1; have a3 : _ = some (Value.slice oo od.length oc) := (HA.out _ hx1).1.cell 3; have b3 : _ = some (Value.slice oo' od.length oc') := (HA.out _ hx1).2.cell 3)
      | (go_at_call 101; have _t := t2; refine (S2.out _ ((((Ext.refl w).alloc _).alloc _).trans hx1)).mono ?_; rintro e w2 ⟨rfl, hx2⟩; clear t2; have a0 : _ = some (Value.int .i64 ep) := (HA.out _ (hx1.trans hx2)).1.cell 0; have a1 : _ = some (Value.int .i64 lg) := (HA.out _ (hx1.trans hx2)).1.cell 1; have b0 : _ = some (Value.int .i64 ep') := (HA.out _ (hx1.trans hx2)).2.cell 0; have b1 : _ = some (Value.int .i64 lg') := (HA.out _ (hx1.trans hx2)).2.cell 1))
    go_ret
    exact ⟨rfl, (((Ext.refl w).alloc _).alloc _).trans (hx1.trans hx2)⟩
end Go.Proofs.Ytpldeejagomfjaa
