/- ManF ManH ManI. -/
import Derived.Test.YtjeinblcpejpnabGreatDoorManEJ
import Derived.Test.YtjeinblcpejpnabGreatDoorTabCJ

/- Manifests: what is written is read. -/
namespace Go.Proofs.YtjeinblcpejpnabGreatDoor
open Go.RowKit Go.WideShapes

theorem numsOf_byt {l : List Int} (h : ∀ x ∈ l, 2 ≤ x ∧ x < 24) : numsOf (l.map byt) = l := by
  induction l with
  | nil => rfl
  | cons x r ih =>
    have hx := h x (by simp)
    obtain ⟨n, rfl⟩ := Int.eq_ofNat_of_zero_le (show 0 ≤ x by omega)
    show ((byt (n : Int)).toNat : Int) :: numsOf (r.map byt) = _
    rw [byt_nat n (by omega), ih (fun y hy => h y (by simp [hy]))]
theorem encM_size (E G : Int) (nw od : List Int) (z : Nat) : (txtM (encM E G nw od ++ List.replicate z 0)).size = 7 + nw.length + od.length + z := by
  rw [Lib.size_eq]; simp [txtM, encM]; omega
theorem extM_data (l : List UInt8) (i j : Nat) : ((txtM l).extract i j).data.toList = (l.drop i).take (j - i) := by
  rw [Lib.extract_data]; rfl

theorem parse_encM (E G : Nat) (nw od : List Int) (z : Nat) (w : World) (hz : z ≤ 31) (hf : manF (E : Int) (G : Int) nw od = 0) :
    Calls Tryz.prog 90 #[.string (txtM (encM (E : Int) (G : Int) nw od ++ List.replicate z 0))] w fun e w' => ∃ a1 c1 a2 c2, e = .returned (.tuple #[.agg #[.int .i64 (E : Int), .int .i64 (G : Int), .slice a1 nw.length c1, .slice a2 od.length c2], .nilIface]) ∧ NumsAt w' a1 nw ∧ NumsAt w' a2 od ∧ Ext w w' := by
  obtain ⟨hE, hS⟩ := manF_zero hf
  obtain ⟨hr, hnd, _⟩ := scan_zero hS
  have h24 := nodup_le hr hnd
  have hG := hr (G : Int) (by simp)
  have hrn : ∀ x ∈ nw, 2 ≤ x ∧ x < 24 := fun x hx => hr x (by simp [hx])
  have hro : ∀ x ∈ od, 2 ≤ x ∧ x < 24 := fun x hx => hr x (by simp [hx])
  have hle : nw.length + od.length ≤ 23 := by simp at h24; omega
  have hsz := encM_size (E : Int) (G : Int) nw od z
  have en : (UInt8.ofNat nw.length).toNat = nw.length := by simp; omega
  have eo : (UInt8.ofNat od.length).toNat = od.length := by simp; omega
  have x1 : ((byt ((E : Int) % 256)).toNat : Int) = (E : Int) % 256 := by
    have := byt_nat (E % 256) (by omega); simpa using this
  have x2 : ((byt ((E : Int) / 256 % 256)).toNat : Int) = (E : Int) / 256 % 256 := by
    have := byt_nat (E / 256 % 256) (by omega); simpa using this
  have x3 : ((byt ((E : Int) / 65536)).toNat : Int) = (E : Int) / 65536 := by
    have := byt_nat (E / 65536) (by omega); simpa using this
  have x4 := byt_nat G (by omega)
  have := parseM_in (txtM (encM (E : Int) (G : Int) nw od ++ List.replicate z 0)) w (byt ((E : Int) % 256)) (byt ((E : Int) / 256 % 256)) (byt ((E : Int) / 65536)) (byt (G : Int)) (UInt8.ofNat nw.length) (UInt8.ofNat od.length)
    (by omega) (by omega) rfl rfl rfl rfl rfl rfl rfl (by omega)
  rw [en, eo, x1, x2, x3, x4, extM_data, extM_data] at this
  have d1 : ((encM (E : Int) (G : Int) nw od ++ List.replicate z 0).drop 7).take (7 + nw.length - 7) = nw.map byt := by
    rw [show 7 + nw.length - 7 = (nw.map byt).length by simp]; simp [encM, -List.length_map]
  have d2 : ((encM (E : Int) (G : Int) nw od ++ List.replicate z 0).drop (7 + nw.length)).take (7 + nw.length + od.length - (7 + nw.length)) = od.map byt := by
    rw [← List.drop_drop, show 7 + nw.length + od.length - (7 + nw.length) = (od.map byt).length by simp, show nw.length = (nw.map byt).length by simp]; simp [encM, -List.length_map]
  rw [d1, d2, numsOf_byt hrn, numsOf_byt hro, show (E : Int) % 256 + 256 * ((E : Int) / 256 % 256) + 65536 * ((E : Int) / 65536) = (E : Int) by omega] at this
  refine this.mono ?_
  rintro e w' (⟨_, a1, c1, a2, c2, h1, h2, h3, h4⟩ | ⟨h, _⟩)
  · exact ⟨a1, c1, a2, c2, h1, h2.at, h3.at, h4⟩
  · exact absurd hf h

set_option maxHeartbeats 1000000 in
theorem sameM_any (ep lg ep' lg' : Int) (no oo no' oo' : Option Addr) (nc oc nc' oc' : Nat) (nw od : List Int) (w : World) (hl1 : nw.length ≤ 9223372036854775807) (hl2 : od.length ≤ 9223372036854775807) (h1 : NumsAt w no nw) (h2 : NumsAt w oo od) (h3 : NumsAt w no' nw) (h4 : NumsAt w oo' od) :
    Calls Tryz.prog 34 #[.agg #[.int .i64 ep, .int .i64 lg, .slice no nw.length nc, .slice oo od.length oc], .agg #[.int .i64 ep', .int .i64 lg', .slice no' nw.length nc', .slice oo' od.length oc']] w fun e w' => e = .returned (.bool (decide (ep = ep' ∧ lg = lg'))) ∧ Ext w w' := by
  have S1 : Hid (∀ W, Ext w W → Calls Tryz.prog 58 #[.slice no nw.length nc, .slice no' nw.length nc'] W fun e w' => e = .returned (.bool true) ∧ Ext W w') := fun W hx => by
    refine (sameNums_any no no' nc nc' nw W hl1 (h1.ext hx) (h3.ext hx)).mono ?_
    rintro e w' ⟨rfl, q, rfl⟩
    exact ⟨rfl, (Ext.refl W).drewN q⟩
  have S2 : Hid (∀ W, Ext w W → Calls Tryz.prog 58 #[.slice oo od.length oc, .slice oo' od.length oc'] W fun e w' => e = .returned (.bool true) ∧ Ext W w') := fun W hx => by
    refine (sameNums_any oo oo' oc oc' od W hl2 (h2.ext hx) (h4.ext hx)).mono ?_
    rintro e w' ⟨rfl, q, rfl⟩
    exact ⟨rfl, (Ext.refl W).drewN q⟩
  clear h1 h2 h3 h4
  have HA : Hid (∀ W, Ext ((w.alloc (.cells #[.int .i64 ep, .int .i64 lg, .slice no nw.length nc, .slice oo od.length oc] 65)).alloc (.cells #[.int .i64 ep', .int .i64 lg', .slice no' nw.length nc', .slice oo' od.length oc'] 65)) W → Blk W w.heap.size #[.int .i64 ep, .int .i64 lg, .slice no nw.length nc, .slice oo od.length oc] 65 ∧ Blk W (w.heap.size + 1) #[.int .i64 ep', .int .i64 lg', .slice no' nw.length nc', .slice oo' od.length oc'] 65) :=
    fun W hx => ⟨Blk.ext hx ((Blk.new _ _ _).alloc _), Blk.ext hx (Blk.new' _ _ _ (by simp))⟩
  have t1 : True := trivial
  have t2 : True := trivial
  by_cases he : ep = ep'
  · by_cases hg : lg = lg'
    · have hr : decide (ep = ep' ∧ lg = lg') = true := by simp [he, hg]
      rw [hr]; subst he hg
      go_enter Tryz.func34, Tryz.ntmps34
      go_wp2_with (first
        | (go_at_call 58; have _t := t1; refine (S1.out _ (((Ext.refl w).alloc _).alloc _)).mono ?_; rintro e w1 ⟨rfl, hx1⟩; clear t1; have a0 : _ = some (Value.int .i64 ep) := (HA.out _ hx1).1.cell 0; have a1 : _ = some (Value.int .i64 lg) := (HA.out _ hx1).1.cell 1; have b0 : _ = some (Value.int .i64 ep) := (HA.out _ hx1).2.cell 0; have b1 : _ = some (Value.int .i64 lg) := (HA.out _ hx1).2.cell 1; have a3 : _ = some (Value.slice oo od.length oc) := (HA.out _ hx1).1.cell 3; have b3 : _ = some (Value.slice oo' od.length oc') := (HA.out _ hx1).2.cell 3)
        | (go_at_call 58; have _t := t2; refine (S2.out _ ((((Ext.refl w).alloc _).alloc _).trans hx1)).mono ?_; rintro e w2 ⟨rfl, hx2⟩; clear t2; have a0 : _ = some (Value.int .i64 ep) := (HA.out _ (hx1.trans hx2)).1.cell 0; have a1 : _ = some (Value.int .i64 lg) := (HA.out _ (hx1.trans hx2)).1.cell 1; have b0 : _ = some (Value.int .i64 ep) := (HA.out _ (hx1.trans hx2)).2.cell 0; have b1 : _ = some (Value.int .i64 lg) := (HA.out _ (hx1.trans hx2)).2.cell 1))
      go_ret
      exact ⟨rfl, (((Ext.refl w).alloc _).alloc _).trans (hx1.trans hx2)⟩
    · have hr : decide (ep = ep' ∧ lg = lg') = false := by simp [hg]
      rw [hr]; subst he
      go_enter Tryz.func34, Tryz.ntmps34
      go_wp2_with (first
        | (go_at_call 58; have _t := t1; refine (S1.out _ (((Ext.refl w).alloc _).alloc _)).mono ?_; rintro e w1 ⟨rfl, hx1⟩; clear t1; have a0 : _ = some (Value.int .i64 ep) := (HA.out _ hx1).1.cell 0; have a1 : _ = some (Value.int .i64 lg) := (HA.out _ hx1).1.cell 1; have b0 : _ = some (Value.int .i64 ep) := (HA.out _ hx1).2.cell 0; have b1 : _ = some (Value.int .i64 lg') := (HA.out _ hx1).2.cell 1; have a3 : _ = some (Value.slice oo od.length oc) := (HA.out _ hx1).1.cell 3; have b3 : _ = some (Value.slice oo' od.length oc') := (HA.out _ hx1).2.cell 3)
        | (go_at_call 58; have _t := t2; refine (S2.out _ ((((Ext.refl w).alloc _).alloc _).trans hx1)).mono ?_; rintro e w2 ⟨rfl, hx2⟩; clear t2; have a0 : _ = some (Value.int .i64 ep) := (HA.out _ (hx1.trans hx2)).1.cell 0; have a1 : _ = some (Value.int .i64 lg) := (HA.out _ (hx1.trans hx2)).1.cell 1; have b0 : _ = some (Value.int .i64 ep) := (HA.out _ (hx1.trans hx2)).2.cell 0; have b1 : _ = some (Value.int .i64 lg') := (HA.out _ (hx1.trans hx2)).2.cell 1))
      go_ret
      exact ⟨rfl, (((Ext.refl w).alloc _).alloc _).trans (hx1.trans hx2)⟩
  · have hr : decide (ep = ep' ∧ lg = lg') = false := by simp [he]
    rw [hr]
    go_enter Tryz.func34, Tryz.ntmps34
    go_wp2_with (first
      | (go_at_call 58; have _t := t1; refine (S1.out _ (((Ext.refl w).alloc _).alloc _)).mono ?_; rintro e w1 ⟨rfl, hx1⟩; clear t1; have a0 : _ = some (Value.int .i64 ep) := (HA.out _ hx1).1.cell 0; have a1 : _ = some (Value.int .i64 lg) := (HA.out _ hx1).1.cell 1; have b0 : _ = some (Value.int .i64 ep') := (HA.out _ hx1).2.cell 0; have b1 : _ = some (Value.int .i64 lg') := (HA.out _ hx1).2.cell 1; have a3 : _ = some (Value.slice oo od.length oc) := (HA.out _ hx1).1.cell 3; have b3 : _ = some (Value.slice oo' od.length oc') := (HA.out _ hx1).2.cell 3)
      | (go_at_call 58; have _t := t2; refine (S2.out _ ((((Ext.refl w).alloc _).alloc _).trans hx1)).mono ?_; rintro e w2 ⟨rfl, hx2⟩; clear t2; have a0 : _ = some (Value.int .i64 ep) := (HA.out _ (hx1.trans hx2)).1.cell 0; have a1 : _ = some (Value.int .i64 lg) := (HA.out _ (hx1.trans hx2)).1.cell 1; have b0 : _ = some (Value.int .i64 ep') := (HA.out _ (hx1.trans hx2)).2.cell 0; have b1 : _ = some (Value.int .i64 lg') := (HA.out _ (hx1.trans hx2)).2.cell 1))
    go_ret
    exact ⟨rfl, (((Ext.refl w).alloc _).alloc _).trans (hx1.trans hx2)⟩
end Go.Proofs.YtjeinblcpejpnabGreatDoor

/- Manifests: Parse, of any text. -/
namespace Go.Proofs.YtjeinblcpejpnabGreatDoor
open Go.RowKit Go.WideShapes
attribute [local go_sem ↓] Go.wp_at_zero Go.wp_at_succ

/-- A manifest. -/
structure Man where
  ep : Int
  lg : Int
  nw : List Int
  od : List Int
def manFault (m : Man) : Int := manF m.ep m.lg m.nw m.od
def byteL (l : List UInt8) (i : Nat) : Nat := (l.getD i 0).toNat
/-- The manifest that bytes tell of, whether it may be or not. -/
def rawM (l : List UInt8) : Man :=
  ⟨(byteL l 1 : Int) + 256 * (byteL l 2 : Int) + 65536 * (byteL l 3 : Int), (byteL l 4 : Int), numsOf ((l.drop 7).take (byteL l 5)), numsOf ((l.drop (7 + byteL l 5)).take (byteL l 6))⟩
def parseB (l : List UInt8) : Option Man :=
  if 7 ≤ l.length ∧ byteL l 0 = 77 ∧ 7 + byteL l 5 + byteL l 6 ≤ l.length ∧ manFault (rawM l) = 0 then some (rawM l) else none
/-- A manifest as a value, its numbers behind block g. -/
def ManV (W : World) (g : Nat) (m : Man) (v : Value) : Prop := ∃ a1 c1 a2 c2, v = .agg #[.int .i64 m.ep, .int .i64 m.lg, .slice a1 m.nw.length c1, .slice a2 m.od.length c2] ∧ NumsF W g a1 m.nw ∧ NumsF W g a2 m.od
theorem ManV.ext {W W' : World} {g : Nat} {m : Man} {v : Value} (h : ManV W g m v) (hx : Ext W W') : ManV W' g m v := by
  obtain ⟨a1, c1, a2, c2, e, h1, h2⟩ := h
  exact ⟨a1, c1, a2, c2, e, NumsF.ext hx h1, NumsF.ext hx h2⟩
theorem ManV.mono {W : World} {g g' : Nat} {m : Man} {v : Value} (h : ManV W g m v) (hg : g' ≤ g) : ManV W g' m v := by
  obtain ⟨a1, c1, a2, c2, e, h1, h2⟩ := h
  exact ⟨a1, c1, a2, c2, e, h1.mono hg, h2.mono hg⟩
def zeroV : Value := .agg #[.int .i64 0, .int .i64 0, .slice none 0 0, .slice none 0 0]
def PEnd (w w' : World) (e : Ending) (o : Option Man) : Prop :=
  (∃ m v, o = some m ∧ e = .returned (.tuple #[v, .nilIface]) ∧ ManV w' w.heap.size m v ∧ Ext w w') ∨ (o = none ∧ e = .returned (.tuple #[zeroV, .iface 88 (.int .i64 4)]) ∧ Ext w w')
theorem byteL_get (s : ByteArray) (i : Nat) (h : i < s.size) : byteL s.data.toList i = s[i].toNat := by
  unfold byteL
  rw [List.getD_eq_getElem?_getD, List.getElem?_eq_getElem (by simpa using h)]
  rfl

set_option maxRecDepth 20000 in
set_option maxHeartbeats 1000000 in
theorem parseM_short (s : ByteArray) (w : World) (h : s.size < 7) :
    Calls Tryz.prog 90 #[.string s] w fun e w' => e = .returned (.tuple #[zeroV, .iface 88 (.int .i64 4)]) ∧ Ext w w' := by
  have h' : (s.size : Int) < 7 := by omega
  go_enter Tryz.func90, Tryz.ntmps90
  go_wp2
  refine bodyPost_ret (v := .tuple #[zeroV, .iface 88 (.int .i64 4)]) (by simp [results, go_sem, zeroV]) rfl ⟨rfl, ?_⟩
  exact (Ext.refl w).alloc _
set_option maxRecDepth 20000 in
set_option maxHeartbeats 1000000 in
theorem parseM_mark (s : ByteArray) (w : World) (h7 : 7 ≤ s.size) (h : ¬ s[0].toNat = 77) :
    Calls Tryz.prog 90 #[.string s] w fun e w' => e = .returned (.tuple #[zeroV, .iface 88 (.int .i64 4)]) ∧ Ext w w' := by
  have h' : ¬ (s.size : Int) < 7 := by omega
  have hp : 0 < s.size := by omega
  have ix : ∀ W : World, (Instr.index 9 (.string s) (.int .i64 0)).run Tryz.prog W = .ok (.int .u8 (s[0].toNat : Int)) W := fun W => by
    simp [go_sem, Tryz.underlying9, hp]
  have h'' : ¬ (s[0].toNat : Int) = 77 := by omega
  generalize (s[0].toNat : Int) = x at *
  clear h
  go_enter Tryz.func90, Tryz.ntmps90
  go_wp2
  refine bodyPost_ret (v := .tuple #[zeroV, .iface 88 (.int .i64 4)]) (by simp [results, go_sem, zeroV]) rfl ⟨rfl, ?_⟩
  exact (Ext.refl w).alloc _
set_option maxRecDepth 20000 in
set_option maxHeartbeats 1000000 in
theorem parseM_far (s : ByteArray) (w : World) (h7 : 7 ≤ s.size) (hs : s.size ≤ 1000) (h : s[0].toNat = 77) (hf : ¬ 7 + s[5].toNat + s[6].toNat ≤ s.size) :
    Calls Tryz.prog 90 #[.string s] w fun e w' => e = .returned (.tuple #[zeroV, .iface 88 (.int .i64 4)]) ∧ Ext w w' := by
  have h' : ¬ (s.size : Int) < 7 := by omega
  have hp : 0 < s.size := by omega
  have hp5 : (5 : Int) < s.size := by omega
  have hp6 : (6 : Int) < s.size := by omega
  have ix : ∀ W : World, (Instr.index 9 (.string s) (.int .i64 0)).run Tryz.prog W = .ok (.int .u8 77) W := fun W => by
    simp [go_sem, Tryz.underlying9, hp, h]
  have ix5 : ∀ W : World, (Instr.index 9 (.string s) (.int .i64 5)).run Tryz.prog W = .ok (.int .u8 (s[5].toNat : Int)) W := fun W => by
    simp [go_sem, Tryz.underlying9, hp5]
  have ix6 : ∀ W : World, (Instr.index 9 (.string s) (.int .i64 6)).run Tryz.prog W = .ok (.int .u8 (s[6].toNat : Int)) W := fun W => by
    simp [go_sem, Tryz.underlying9, hp6]
  have l5 := s[5].toNat_lt
  have l6 := s[6].toNat_lt
  generalize s[5].toNat = x5 at *
  generalize s[6].toNat = x6 at *
  have hf' : (s.size : Int) < 7 + (x5 : Int) + (x6 : Int) := by omega
  clear h
  go_enter Tryz.func90, Tryz.ntmps90
  go_wp2
  refine bodyPost_ret (v := .tuple #[zeroV, .iface 88 (.int .i64 4)]) (by simp [results, go_sem, zeroV]) rfl ⟨rfl, ?_⟩
  exact (Ext.refl w).alloc _

theorem parseM_any (s : ByteArray) (w : World) (hs : s.size ≤ 100) :
    Calls Tryz.prog 90 #[.string s] w fun e w' => PEnd w w' e (parseB s.data.toList) := by
  have hl : s.data.toList.length = s.size := (Lib.size_eq s).symm
  by_cases h7 : 7 ≤ s.size
  · by_cases h0 : s[0].toNat = 77
    · by_cases hf : 7 + s[5].toNat + s[6].toNat ≤ s.size
      · have h0' : s[0] = 77 := by
          apply UInt8.toNat_inj.1; rw [h0]; rfl
        refine (parseM_in s w s[1] s[2] s[3] s[4] s[5] s[6] hs h7 h0' rfl rfl rfl rfl rfl rfl hf).mono ?_
        have hr : rawM s.data.toList = ⟨(s[1].toNat : Int) + 256 * (s[2].toNat : Int) + 65536 * (s[3].toNat : Int), (s[4].toNat : Int), numsOf (s.extract 7 (7 + s[5].toNat)).data.toList, numsOf (s.extract (7 + s[5].toNat) (7 + s[5].toNat + s[6].toNat)).data.toList⟩ := by
          unfold rawM
          rw [byteL_get s 1 (by omega), byteL_get s 2 (by omega), byteL_get s 3 (by omega), byteL_get s 4 (by omega), byteL_get s 5 (by omega), byteL_get s 6 (by omega), Lib.extract_data, Lib.extract_data]
          rw [show 7 + s[5].toNat - 7 = s[5].toNat by omega, show 7 + s[5].toNat + s[6].toNat - (7 + s[5].toNat) = s[6].toNat by omega]
          rfl
        have hc : 7 ≤ s.data.toList.length ∧ byteL s.data.toList 0 = 77 ∧ 7 + byteL s.data.toList 5 + byteL s.data.toList 6 ≤ s.data.toList.length := by
          rw [hl, byteL_get s 0 (by omega), byteL_get s 5 (by omega), byteL_get s 6 (by omega)]
          exact ⟨h7, h0, hf⟩
        rintro e w' (⟨h, a1, c1, a2, c2, rfl, q1, q2, hx⟩ | ⟨h, rfl, hx⟩)
        · refine .inl ⟨rawM s.data.toList, _, ?_, rfl, ?_, hx⟩
          · unfold parseB; rw [if_pos ⟨hc.1, hc.2.1, hc.2.2, by unfold manFault; rw [hr]; exact h⟩]
          · rw [hr]; exact ⟨a1, c1, a2, c2, rfl, q1, q2⟩
        · refine .inr ⟨?_, rfl, hx⟩
          unfold parseB; rw [if_neg (fun k => h (by have := k.2.2.2; unfold manFault at this; rw [hr] at this; exact this))]
      · refine (parseM_far s w h7 (by omega) h0 hf).mono ?_
        rintro e w' ⟨rfl, hx⟩
        refine .inr ⟨?_, rfl, hx⟩
        unfold parseB; rw [if_neg (fun k => hf (by have := k.2.2.1; rw [hl, byteL_get s 5 (by omega), byteL_get s 6 (by omega)] at this; exact this))]
    · refine (parseM_mark s w h7 h0).mono ?_
      rintro e w' ⟨rfl, hx⟩
      refine .inr ⟨?_, rfl, hx⟩
      unfold parseB; rw [if_neg (fun k => h0 (by have := k.2.1; rw [byteL_get s 0 (by omega)] at this; exact this))]
  · refine (parseM_short s w (by omega)).mono ?_
    rintro e w' ⟨rfl, hx⟩
    refine .inr ⟨?_, rfl, hx⟩
    unfold parseB; rw [if_neg (fun k => h7 (by have := k.1; omega))]
end Go.Proofs.YtjeinblcpejpnabGreatDoor

/- Manifests on a chip: read. -/
namespace Go.Proofs.YtjeinblcpejpnabGreatDoor
open Go.RowKit Go.WideShapes
attribute [local go_sem ↓] Go.wp_at_zero Go.wp_at_succ

theorem ChipAt.d64 {w : World} {cb : Nat} {M : CM} (h : ChipAt w cb M) {b p : Nat} {d : List UInt8} (hb : b < 24) (hg : (M.pg b)[p]? = some (.whole d)) : d.length = 64 := by
  obtain ⟨⟨cs, fv, _, h2, _⟩, _⟩ := h
  exact (h2.blk b hb).d64 p d hg
theorem ChipAt.len8 {w : World} {cb : Nat} {M : CM} (h : ChipAt w cb M) {b : Nat} (hb : b < 24) : (M.pg b).length ≤ 8 := by
  obtain ⟨⟨cs, fv, _, h2, _⟩, _⟩ := h
  exact (h2.blk b hb).len8
/-- The manifest of a page. -/
def pageM (M : CM) (b p : Nat) : Option Man := match (M.pg b)[p]? with
  | some (.whole d) => parseB d
  | _ => none
theorem readR_of {M : CM} {b p : Nat} (hd : downB M = false) (hb : b < 24) (hp : p < 8) : readR M (b : Int) (p : Int) = (match (M.pg b)[p]? with | none => ([], 5) | some (.whole d) => (d, 0) | some .torn => ([], 4)) := by
  unfold readR; rw [hd, if_neg (by simp), if_pos ⟨by omega, by omega, by omega, by omega⟩, Int.toNat_natCast, Int.toNat_natCast]; rfl
/-- What read gives. -/
def ReadEnd (w w' : World) (e : Ending) (o : Option Man) : Prop :=
  (∃ m v, o = some m ∧ e = .returned (.tuple #[v, .nilIface]) ∧ ManV w' w.heap.size m v ∧ Ext w w') ∨ (o = none ∧ ∃ n, e = .returned (.tuple #[zeroV, .iface 88 (.int .i64 n)]) ∧ Ext w w')

set_option maxRecDepth 20000 in
set_option maxHeartbeats 1000000 in
theorem readM_err (cb b p : Nat) (n : Int) (M : CM) (w : World) (h : ChipAt w cb M) (hn : ¬ n = 0) (hr : readR M (b : Int) (p : Int) = ([], n)) :
    Calls Tryz.prog 59 #[.pointer (some ⟨cb, 0, none⟩), .int .i64 (b : Int), .int .i64 (p : Int)] w fun e w' => e = .returned (.tuple #[zeroV, .iface 88 (.int .i64 n)]) ∧ Ext w w' := by
  have HR : Hid (∀ o, Calls Tryz.prog 60 #[.pointer (some ⟨cb, 0, none⟩), .int .i64 (b : Int), .int .i64 (p : Int)] (w.alloc o) fun e w' => e = .returned (.tuple #[.string ⟨#[]⟩, .iface 88 (.int .i64 n)]) ∧ w' = w.alloc o) := fun o => by
    have := read_any cb (b : Int) (p : Int) M (w.alloc o) (h.ext ((Ext.refl w).alloc o))
    rw [hr] at this; unfold errV at this; rw [if_neg hn] at this; exact this
  clear h hr hn
  go_enter Tryz.func59, Tryz.ntmps59
  go_wp2_with (go_at_call 60; refine (HR.out _).mono ?_; rintro e w' ⟨rfl, rfl⟩)
  refine bodyPost_ret (v := .tuple #[zeroV, .iface 88 (.int .i64 n)]) (by simp [results, go_sem, zeroV]) rfl ⟨rfl, ?_⟩
  exact (Ext.refl w).alloc _

set_option maxRecDepth 20000 in
set_option maxHeartbeats 1000000 in
theorem readM_ok (cb b p : Nat) (d : List UInt8) (M : CM) (w : World) (h : ChipAt w cb M) (hd : d.length = 64) (hr : readR M (b : Int) (p : Int) = (d, 0)) :
    Calls Tryz.prog 59 #[.pointer (some ⟨cb, 0, none⟩), .int .i64 (b : Int), .int .i64 (p : Int)] w fun e w' => ReadEnd w w' e (parseB d) := by
  have HR : Hid (∀ o, Calls Tryz.prog 60 #[.pointer (some ⟨cb, 0, none⟩), .int .i64 (b : Int), .int .i64 (p : Int)] (w.alloc o) fun e w' => e = .returned (.tuple #[.string (txtL d), .nilIface]) ∧ w' = w.alloc o) := fun o => by
    have := read_any cb (b : Int) (p : Int) M (w.alloc o) (h.ext ((Ext.refl w).alloc o))
    rw [hr] at this; unfold errV at this; rw [if_pos rfl] at this; exact this
  have HP : Hid (∀ W, Calls Tryz.prog 90 #[.string (txtL d)] W fun e w' => PEnd W w' e (parseB d)) := fun W => parseM_any (txtL d) W (by rw [Lib.size_eq]; simp [txtL, hd])
  have HBR : Hid (∀ W, Ext (w.alloc (.cells #[.int .i64 0, .int .i64 0, .slice none 0 0, .slice none 0 0] 65)) W → Blk W w.heap.size #[.int .i64 0, .int .i64 0, .slice none 0 0, .slice none 0 0] 65) := fun W hx => Blk.ext hx (Blk.new _ _ _)
  clear h hr hd
  generalize parseB d = o at *
  generalize txtL d = T at *
  go_enter Tryz.func59, Tryz.ntmps59
  go_wp2_with (first
    | (go_at_call 60; refine (HR.out _).mono ?_; rintro e w' ⟨rfl, rfl⟩)
    | (go_at_call 90; refine (HP.out _).mono ?_; rintro e w2 (⟨m, v, rfl, rfl, ⟨a1, c1, a2, c2, rfl, q1, q2⟩, hx⟩ | ⟨rfl, rfl, hx⟩) <;> (have hB := HBR.out _ hx; have r0 : _ = some (Value.int .i64 0) := hB.cell 0; have r1 : _ = some (Value.int .i64 0) := hB.cell 1; have r2 : _ = some (Value.slice none 0 0) := hB.cell 2; have r3 : _ = some (Value.slice none 0 0) := hB.cell 3; have f0 := hB.free 0; have f1 := hB.free 1; have f2 := hB.free 2; have f3 := hB.free 3; have hlt := hB.lt; try unfold zeroV)))
  · have hg : w.heap.size ≤ (w.alloc (.cells #[.int .i64 0, .int .i64 0, .slice none 0 0, .slice none 0 0] 65)).heap.size := by simp
    have k1 := ((((q1.mono hg).set 0 (.int .i64 m.ep)).set 1 (.int .i64 m.lg)).set 2 (.slice a1 m.nw.length c1)).set 3 (.slice a2 m.od.length c2)
    have k2 := ((((q2.mono hg).set 0 (.int .i64 m.ep)).set 1 (.int .i64 m.lg)).set 2 (.slice a1 m.nw.length c1)).set 3 (.slice a2 m.od.length c2)
    refine bodyPost_ret (v := .tuple #[.agg #[.int .i64 m.ep, .int .i64 m.lg, .slice a1 m.nw.length c1, .slice a2 m.od.length c2], .nilIface]) (by simp [results, go_sem, r0, r1, r2, r3]) rfl (.inl ⟨m, _, rfl, rfl, ⟨a1, c1, a2, c2, rfl, k1, k2⟩, ?_⟩)
    refine Ext.set (Ext.set (Ext.set (Ext.set (((Ext.refl w).alloc _).trans hx) ?_ _) ?_ _) ?_ _) ?_ _ <;> exact Nat.le_refl _
  · refine bodyPost_ret (v := .tuple #[zeroV, .iface 88 (.int .i64 4)]) (by simp [results, go_sem, r0, r1, r2, r3, zeroV]) rfl (.inr ⟨rfl, 4, rfl, ?_⟩)
    refine Ext.set (Ext.set (Ext.set (Ext.set (((Ext.refl w).alloc _).trans hx) ?_ _) ?_ _) ?_ _) ?_ _ <;> exact Nat.le_refl _
theorem readM_any (cb b p : Nat) (M : CM) (w : World) (h : ChipAt w cb M) (hd : downB M = false) (hb : b < 24) (hp : p < 8) :
    Calls Tryz.prog 59 #[.pointer (some ⟨cb, 0, none⟩), .int .i64 (b : Int), .int .i64 (p : Int)] w fun e w' => ReadEnd w w' e (pageM M b p) := by
  have hr := readR_of hd hb hp
  unfold pageM
  cases hg : (M.pg b)[p]? with
  | none =>
    rw [hg] at hr
    refine (readM_err cb b p 5 M w h (by decide) hr).mono ?_
    rintro e w' ⟨rfl, hx⟩
    exact .inr ⟨rfl, 5, rfl, hx⟩
  | some q =>
    rw [hg] at hr
    cases q with
    | torn =>
      refine (readM_err cb b p 4 M w h (by decide) hr).mono ?_
      rintro e w' ⟨rfl, hx⟩
      exact .inr ⟨rfl, 4, rfl, hx⟩
    | whole d => exact readM_ok cb b p d M w h (h.d64 hb hg) hr
end Go.Proofs.YtjeinblcpejpnabGreatDoor
