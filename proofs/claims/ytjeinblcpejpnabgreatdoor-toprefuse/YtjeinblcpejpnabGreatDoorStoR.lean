/- StoA GlbA StoR. -/
import Derived.Test.YtjeinblcpejpnabGreatDoorTowM
import Derived.Test.YtjeinblcpejpnabGreatDoorChpW
import Derived.Deep.RegionHeld3
import Derived.Test.YtjeinblcpejpnabGreatDoorCards
import Derived.Test.YtjeinblcpejpnabGreatDoorTie
import Derived.Lib.LaidU8

/- A store's small functions: inUse, free, readBatch, TrailingZeros, putAll. -/
namespace Go.Proofs.YtjeinblcpejpnabGreatDoor
open Go.RowKit Go.WideShapes

/-- The blocks that a manifest names. -/
def names (m : Man) : List Int := m.lg :: (m.nw ++ m.od)
set_option maxRecDepth 20000 in
set_option maxHeartbeats 4000000 in
theorem inUse_any (m : Man) (no oo : Option Addr) (nc oc : Nat) (w : World) (hl : m.nw.length + m.od.length ≤ 100) (hr : ∀ x ∈ names m, 0 ≤ x ∧ x < 24) (hn : NumsAt w no m.nw) (ho : NumsAt w oo m.od) :
    Calls Tryz.prog 51 #[.agg #[.int .i64 m.ep, .int .i64 m.lg, .slice no m.nw.length nc, .slice oo m.od.length oc]] w fun e w' => e = .returned (.pointer (some ⟨w.heap.size + 1, 0, none⟩)) ∧ Blk w' (w.heap.size + 1) (usedC (names m)) 146 ∧ Ext w w' := by
  obtain ⟨ep, lg, nw, od⟩ := m
  unfold names at *
  dsimp only at *
  have CC : Hid (∀ o1 o2 t1 t2, Calls Tryz.prog 81 #[.slice (some ⟨w.heap.size + 1 + 1 + 1, 0, none⟩) 3 3] ((((w.alloc o1).alloc o2).alloc (.cells #[.int .i64 lg] t1)).alloc (.cells #[.slice (some ⟨w.heap.size + 1 + 1, 0, none⟩) 1 1, .slice no nw.length nc, .slice oo od.length oc] t2)) fun e w' =>
      ∃ b off c, e = .returned (.slice (some ⟨b, off, none⟩) (lg :: (nw ++ od)).length c) ∧ NumsAt w' (some ⟨b, off, none⟩) (lg :: (nw ++ od)) ∧ Ext ((((w.alloc o1).alloc o2).alloc (.cells #[.int .i64 lg] t1)).alloc (.cells #[.slice (some ⟨w.heap.size + 1 + 1, 0, none⟩) 1 1, .slice no nw.length nc, .slice oo od.length oc] t2)) w' ∧
        w.heap.size + 1 + 1 + 1 + 1 ≤ b ∧ b < w'.heap.size) := fun o1 o2 t1 t2 => by
    have hx : Ext w ((((w.alloc o1).alloc o2).alloc (.cells #[.int .i64 lg] t1)).alloc (.cells #[.slice (some ⟨w.heap.size + 1 + 1, 0, none⟩) 1 1, .slice no nw.length nc, .slice oo od.length oc] t2)) := ((((Ext.refl w).alloc o1).alloc o2).alloc _).alloc _
    have := concat3 _ (w.heap.size + 1 + 1) (w.heap.size + 1 + 1 + 1) lg no oo nc oc nw od t1 t2 (Blk.alloc (Blk.new' ((w.alloc o1).alloc o2) #[.int .i64 lg] t1 (by simp)) (.cells #[.slice (some ⟨w.heap.size + 1 + 1, 0, none⟩) 1 1, .slice no nw.length nc, .slice oo od.length oc] t2)) (Blk.new' _ _ _ (by simp)) (hn.ext hx) (ho.ext hx) hl
    refine this.mono ?_
    rintro e w' ⟨b, off, c, h1, h2, h3, h4, h5⟩
    exact ⟨b, off, c, h1, h2, h3, by simpa using h4, h5⟩
  go_enter Tryz.func51, Tryz.ntmps51
  go_wp2_with (go_at_call 81; refine (CC.out _ _ _ _).mono ?_; rintro e w5 ⟨b, off, c, rfl, hN, hx, hb1, hb2⟩)
  have hU5 : Blk w5 (w.heap.size + 1) (usedC []) 146 := by
    rw [usedC_nil]
    exact Blk.ext hx (Blk.alloc (Blk.alloc (Blk.new' _ _ _ (by simp)) _) _)
  have hxw : Ext w w5 := Ext.trans ((((Ext.refl w).alloc _).alloc _).alloc _ |>.alloc _) hx
  have hbn : b ≠ w.heap.size + 1 := by omega
  have hus := hU5.lt
  clear hx CC hn ho hb1
  have hal : (lg :: (nw ++ od)).length ≤ 200 := by simp; omega
  have hlen : (lg :: (nw ++ od)).length = nw.length + od.length + 1 := by simp
  have HR : Hid (∀ x ∈ lg :: (nw ++ od), 0 ≤ x ∧ x < 24) := hr
  clear hr
  generalize hall : lg :: (nw ++ od) = all at *
  have HA : Hid (lg :: (nw ++ od) = all) := hall
  have HLN : Hid (all.length = nw.length + od.length + 1) := hlen
  clear hlen hall
  go_loopw [5, 16] (fun _ i wr => ∃ k : Nat, k ≤ all.length ∧ i = .int .i64 k ∧ Blk wr (w.heap.size + 1) (usedC (all.take k)) 146 ∧ NumsAt wr (some ⟨b, off, none⟩) all ∧ Ext w wr) (fun _ i _ => all.length - (intOf i).toNat)
  case atStart => exact ⟨0, Nat.zero_le _, rfl, hU5, hN, hxw⟩
  case round =>
    clear hU5 hN hxw
    obtain ⟨k, hk, rfl, hU, hN, hx⟩ := hrel
    by_cases hlt : k < all.length
    · obtain ⟨b', off', x, hbb, he, h1⟩ := hN.get hlt
      obtain ⟨rfl, rfl⟩ : b' = b ∧ off' = off := by simp at hbb; exact ⟨hbb.1.symm, hbb.2.symm⟩
      have hkI : (k : Int) < (nw.length : Int) + (od.length : Int) + 1 := by have := HLN.out; omega
      obtain ⟨r1, r2⟩ := HR.out x (List.mem_of_getElem? he)
      obtain ⟨n, rfl⟩ : ∃ n : Nat, x = (n : Int) := ⟨x.toNat, by omega⟩
      have hn24 : n < 24 := by omega
      have hu : wr.cell? ⟨w.heap.size + 1, n, none⟩ = some (.bool (decide ((n : Int) ∈ all.take k))) := by rw [hU.cell, usedC_get _ _ hn24]
      have huf := hU.free n
      have hul := hU.lt
      have hU2 : Hid (Blk (wr.setCell ⟨w.heap.size + 1, n, none⟩ (.bool true)) (w.heap.size + 1) (usedC (all.take (k + 1))) 146) := by
        have := hU.set n (.bool true)
        rw [usedC_set] at this
        have e : all.take (k + 1) = all.take k ++ [(n : Int)] := by rw [List.take_add_one, he]; rfl
        rw [Hid, e]; exact this
      have hN2 : Hid (NumsAt (wr.setCell ⟨w.heap.size + 1, n, none⟩ (.bool true)) (some ⟨b', off', none⟩) all) := hN.set hbn _ _
      have hx2 : Hid (Ext w (wr.setCell ⟨w.heap.size + 1, n, none⟩ (.bool true))) := hx.set (by simp) _
      generalize decide ((n : Int) ∈ all.take k) = dd at *
      clear he hN hU hx
      go_wp2
      go_roundw
      case rel => exact ⟨k + 1, by omega, by go_num, hU2.out, hN2.out, hx2.out⟩
      case measure => simp [intOf]; omega
    · have hkI : ¬ ((k : Int) < (nw.length : Int) + (od.length : Int) + 1) := by have := HLN.out; omega
      have HU : Hid (Blk wr (w.heap.size + 1) (usedC all) 146) := by
        rw [List.take_of_length_le (by omega)] at hU; exact hU
      clear hN hU
      go_wp2
      go_ret
      exact ⟨rfl, by rw [HA.out]; exact HU.out, hx⟩
/-- What free gives. -/
def freeV (o : Option Nat) : Value := .tuple #[.int .i64 ((o.getD 0 : Nat) : Int), .bool o.isSome]
set_option maxRecDepth 20000 in
set_option maxHeartbeats 4000000 in
theorem free_any (cb ub : Nat) (M : CM) (L : List Int) (w : World) (h : ChipAt w cb M) (hu : Blk w ub (usedC L) 146) :
    Calls Tryz.prog 97 #[.pointer (some ⟨cb, 0, none⟩), .pointer (some ⟨ub, 0, none⟩)] w fun e w' => e = .returned (freeV (freeS M L)) ∧ w' = w := by
  have HB : Hid (∀ b : Nat, b < 24 → Calls Tryz.prog 116 #[.pointer (some ⟨cb, 0, none⟩), .int .i64 (b : Int)] w fun e w' => e = .returned (.bool (M.bd b)) ∧ w' = w) := fun b hb => bad_any cb b M w hb h
  have HW : Hid (∀ b : Nat, b < 24 → Calls Tryz.prog 117 #[.pointer (some ⟨cb, 0, none⟩), .int .i64 (b : Int)] w fun e w' => e = .returned (.int .i64 (M.wr b : Int)) ∧ w' = w) := fun b hb => wear_any cb b M w hb h
  have HC : Hid (∀ n : Nat, n < 24 → w.cell? ⟨ub, n, none⟩ = some (.bool (decide ((n : Int) ∈ L)))) := fun n hn => by rw [hu.cell, usedC_get _ _ hn]
  have hul := hu.lt
  clear h hu
  go_enter Tryz.func97, Tryz.ntmps97
  go_wp2
  go_loop [6, 7, 8] (fun lv iv i => ∃ k : Nat, k ≤ 22 ∧ i = .int .i64 ((k : Int) + 2) ∧ lv = .int .i64 (((freeTo M L k).getD 0 : Nat) : Int) ∧ iv = .bool (freeTo M L k).isSome) (fun _ _ i => 24 - (intOf i).toNat)
  case atStart => exact ⟨0, by omega, rfl, rfl, rfl⟩
  case round =>
    obtain ⟨k, hk, rfl, rfl, rfl⟩ := hrel
    have ek : (((k : Int) + 2).toNat) = k + 2 := by omega
    by_cases hlt : k < 22
    · have hb := HB.out (k + 2) (by omega)
      have hw := HW.out (k + 2) (by omega)
      have hc := HC.out (k + 2) (by omega)
      rw [show ((k + 2 : Nat) : Int) = (k : Int) + 2 by omega] at hb hw hc
      have HN : Hid (freeTo M L (k + 1) = if ((k + 2 : Nat) : Int) ∈ L ∨ M.bd (k + 2) = true then freeTo M L k else match freeTo M L k with | none => some (k + 2) | some l => if M.wr (k + 2) < M.wr l then some (k + 2) else some l) := rfl
      have HF : Hid (∀ b, freeTo M L k = some b → b < 24) := fun b hb => by have := ((freeTo_is M L k).1 b hb).lt; omega
      rw [show ((k + 2 : Nat) : Int) = (k : Int) + 2 by omega] at HN
      clear HB HC
      by_cases hd : (k : Int) + 2 ∈ L
      · rw [decide_eq_true hd] at hc
        have HN2 : Hid (freeTo M L (k + 1) = freeTo M L k) := by rw [Hid, HN.out, if_pos (.inl hd)]
        clear HN HF hb hw HW hd
        go_wp2
        go_round
        case rel => exact ⟨k + 1, by omega, by go_num, by rw [HN2.out], by rw [HN2.out]⟩
        case measure => simp [intOf]; omega
      · rw [decide_eq_false hd] at hc
        cases hbd : M.bd (k + 2) with
        | true =>
          have HN2 : Hid (freeTo M L (k + 1) = freeTo M L k) := by rw [Hid, HN.out, if_pos (.inr hbd)]
          rw [hbd] at hb
          have HB : Hid (Calls Tryz.prog 116 #[.pointer (some ⟨cb, 0, none⟩), .int .i64 ((k : Int) + 2)] w fun e w' => e = .returned (.bool true) ∧ w' = w) := hb
          clear HN HF hb hw HW hd
          go_wp2_with (go_at_call 116; refine HB.out.mono ?_; rintro e w1 ⟨rfl, rfl⟩)
          go_round
          case rel => exact ⟨k + 1, by omega, by go_num, by rw [HN2.out], by rw [HN2.out]⟩
          case measure => simp [intOf]; omega
        | false =>
          rw [hbd] at hb
          have HB : Hid (Calls Tryz.prog 116 #[.pointer (some ⟨cb, 0, none⟩), .int .i64 ((k : Int) + 2)] w fun e w' => e = .returned (.bool false) ∧ w' = w) := hb
          have HN2 : Hid (freeTo M L (k + 1) = match freeTo M L k with | none => some (k + 2) | some l => if M.wr (k + 2) < M.wr l then some (k + 2) else some l) := by
            rw [Hid, HN.out, if_neg (by simp [hd, hbd])]
          clear HN hb hd
          have HW1 : Hid (Calls Tryz.prog 117 #[.pointer (some ⟨cb, 0, none⟩), .int .i64 ((k : Int) + 2)] w fun e w' => e = .returned (.int .i64 (M.wr (k + 2) : Int)) ∧ w' = w) := hw
          clear hw
          cases ho : freeTo M L k with
          | none =>
            rw [ho] at HN2
            have HN3 : Hid (freeTo M L (k + 1) = some (k + 2)) := HN2.out
            clear HN2 HF HW HW1
            go_wp2_with (go_at_call 116; refine HB.out.mono ?_; rintro e w1 ⟨rfl, rfl⟩)
            go_round
            case rel => exact ⟨k + 1, by omega, by go_num, by rw [HN3.out]; rfl, by rw [HN3.out]; rfl⟩
            case measure => simp [intOf]; omega
          | some l =>
            have hl := HF.out l ho
            have HW2 : Hid (Calls Tryz.prog 117 #[.pointer (some ⟨cb, 0, none⟩), .int .i64 (l : Int)] w fun e w' => e = .returned (.int .i64 (M.wr l : Int)) ∧ w' = w) := HW.out l hl
            rw [ho] at HN2
            have HN3 : Hid (freeTo M L (k + 1) = if M.wr (k + 2) < M.wr l then some (k + 2) else some l) := HN2.out
            clear HN2 HF HW ho
            by_cases hlw : M.wr (k + 2) < M.wr l
            · have HN4 : Hid (freeTo M L (k + 1) = some (k + 2)) := by rw [Hid, HN3.out, if_pos hlw]
              have hlw' : (M.wr (k + 2) : Int) < (M.wr l : Int) := by omega
              clear HN3 hlw
              generalize M.wr (k + 2) = x1 at *
              generalize M.wr l = x2 at *
              have t1 : True := trivial
              go_wp2_with (first
                | (go_at_call 116; refine HB.out.mono ?_; rintro e w1 ⟨rfl, rfl⟩)
                | (go_at_call 117; have _t := t1; refine HW1.out.mono ?_; rintro e w1 ⟨rfl, rfl⟩; clear t1)
                | (go_at_call 117; refine HW2.out.mono ?_; rintro e w1 ⟨rfl, rfl⟩))
              go_round
              case rel => exact ⟨k + 1, by omega, by go_num, by rw [HN4.out]; rfl, by rw [HN4.out]; rfl⟩
              case measure => simp [intOf]; omega
            · have HN4 : Hid (freeTo M L (k + 1) = some l) := by rw [Hid, HN3.out, if_neg hlw]
              have hlw' : ¬ (M.wr (k + 2) : Int) < (M.wr l : Int) := by omega
              clear HN3 hlw
              generalize M.wr (k + 2) = x1 at *
              generalize M.wr l = x2 at *
              have t1 : True := trivial
              go_wp2_with (first
                | (go_at_call 116; refine HB.out.mono ?_; rintro e w1 ⟨rfl, rfl⟩)
                | (go_at_call 117; have _t := t1; refine HW1.out.mono ?_; rintro e w1 ⟨rfl, rfl⟩; clear t1)
                | (go_at_call 117; refine HW2.out.mono ?_; rintro e w1 ⟨rfl, rfl⟩))
              go_round
              case rel => exact ⟨k + 1, by omega, by go_num, by rw [HN4.out]; rfl, by rw [HN4.out]; rfl⟩
              case measure => simp [intOf]; omega
    · obtain rfl : k = 22 := by omega
      clear HB HW HC
      go_wp2
      go_ret2
      exact ⟨rfl, rfl⟩
set_option maxRecDepth 20000 in
set_option maxHeartbeats 1000000 in
theorem readBatch_any (cb : Nat) (b p : Int) (M : CM) (w : World) (h : ChipAt w cb M) :
    Calls Tryz.prog 37 #[.pointer (some ⟨cb, 0, none⟩), .int .i64 b, .int .i64 p] w fun e w' => ∃ ao c, e = .returned (.tuple #[.slice ao (pageE M b p).1.length c, errV (pageE M b p).2]) ∧ EntsAt w' ao (pageE M b p).1 ∧ Ext w w' := by
  have HR := read_any cb b p M w h
  have hlen := readR_len h b p
  unfold pageE
  by_cases h0 : (readR M b p).2 = 0
  · have HP : Hid (Calls Tryz.prog 61 #[.string (txtL (readR M b p).1)] w fun e w' => ∃ ao c, e = .returned (.tuple #[.slice ao (entsT (txtL (readR M b p).1)).1.length c, errV (entsT (txtL (readR M b p).1)).2]) ∧ EntsAt w' ao (entsT (txtL (readR M b p).1)).1 ∧ Ext w w') := parse_ents _ w (by simp [txtL, ByteArray.size]; omega)
    rw [h0] at HR
    have HR' : Hid (Calls Tryz.prog 60 #[.pointer (some ⟨cb, 0, none⟩), .int .i64 b, .int .i64 p] w fun e w' => e = .returned (.tuple #[.string (txtL (readR M b p).1), .nilIface]) ∧ w' = w) := HR
    rw [if_pos h0]
    clear HR h0 h hlen
    generalize txtL (readR M b p).1 = s at *
    generalize entsT s = r at *
    obtain ⟨es, er⟩ := r
    dsimp only at *
    go_enter Tryz.func37, Tryz.ntmps37
    go_wp2_with (first
      | (go_at_call 60; refine HR'.out.mono ?_; rintro e w1 ⟨rfl, rfl⟩)
      | (go_at_call 61; refine HP.out.mono ?_; rintro e w2 ⟨ao, c, rfl, he, hx⟩))
    go_ret2
    exact ⟨ao, c, rfl, he, hx⟩
  · rw [if_neg h0]
    have HR' : Hid (Calls Tryz.prog 60 #[.pointer (some ⟨cb, 0, none⟩), .int .i64 b, .int .i64 p] w fun e w' => e = .returned (.tuple #[.string (txtL (readR M b p).1), .iface 88 (.int .i64 (readR M b p).2)]) ∧ w' = w) := by
      have e : errV (readR M b p).2 = .iface 88 (.int .i64 (readR M b p).2) := by unfold errV; rw [if_neg h0]
      rw [e] at HR; exact HR
    have HE : Hid (errV (readR M b p).2 = .iface 88 (.int .i64 (readR M b p).2)) := by unfold errV Hid; rw [if_neg h0]
    clear HR h0 h hlen
    dsimp only
    rw [HE.out]
    generalize txtL (readR M b p).1 = s at *
    generalize (readR M b p).2 = f at *
    go_enter Tryz.func37, Tryz.ntmps37
    go_wp2_with (go_at_call 60; refine HR'.out.mono ?_; rintro e w1 ⟨rfl, rfl⟩)
    go_ret2
    exact ⟨none, 0, rfl, fun h => absurd rfl h, Ext.refl _⟩
/-- The library's table for trailing noughts lies as it should. -/
def GlobT (w : World) : Prop := ∃ f : Nat → Nat, ∀ i : Nat, i < 64 → w.cell? ⟨1, i, none⟩ = some (.int .u8 (f i : Int)) ∧ f i < 256
theorem GlobT.ext {w w' : World} (h : GlobT w) (hx : Ext w w') : GlobT w' := by
  obtain ⟨f, hf⟩ := h
  exact ⟨f, fun i hi => ⟨hx.cell (hf i hi).1, (hf i hi).2⟩⟩
set_option maxRecDepth 20000 in
set_option maxHeartbeats 1000000 in
theorem tz_any (x : Nat) (w : World) (h1 : 1 ≤ x) (hx : x ≤ 1000) (hg : GlobT w) :
    Calls Tryz.prog 63 #[.int .u64 (x : Int)] w fun e w' => (∃ n : Nat, n < 256 ∧ e = .returned (.int .i64 (n : Int))) ∧ w' = w := by
  obtain ⟨f, hf⟩ := hg
  have hE : 0 ≤ IntKind.u64.wrap (bits BinOp.and IntKind.u64 (x : Int) (IntKind.u64.wrap (-(x : Int))) * 285870213051353865) / 288230376151711744 ∧ IntKind.u64.wrap (bits BinOp.and IntKind.u64 (x : Int) (IntKind.u64.wrap (-(x : Int))) * 285870213051353865) / 288230376151711744 < 64 := by
    generalize bits BinOp.and IntKind.u64 (x : Int) (IntKind.u64.wrap (-(x : Int))) * 285870213051353865 = y
    rw [IntKind.wrap_u64]
    omega
  have hc := hf (IntKind.u64.wrap (bits BinOp.and IntKind.u64 (x : Int) (IntKind.u64.wrap (-(x : Int))) * 285870213051353865) / 288230376151711744).toNat (by omega)
  obtain ⟨hc1, hc2⟩ := hc
  obtain ⟨hE1, hE2⟩ := hE
  have hx0 : ((x : Int) == 0) = false := by simp; omega
  clear hf
  generalize f (IntKind.u64.wrap (bits BinOp.and IntKind.u64 (x : Int) (IntKind.u64.wrap (-(x : Int))) * 285870213051353865) / 288230376151711744).toNat = n at *
  go_enter Tryz.func63, Tryz.ntmps63
  go_wp2
  go_ret
  exact ⟨⟨n, hc2, rfl⟩, rfl⟩
end Go.Proofs.YtjeinblcpejpnabGreatDoor

/- The tables that are laid. -/
namespace Go.Proofs.YtjeinblcpejpnabGreatDoor
open Go.WideShapes Go.RowKit

def bits64 : List Int := [0, 1, 56, 2, 57, 49, 28, 3, 61, 58, 42, 50, 38, 29, 17, 4, 62, 47, 59, 36, 45, 43, 51, 22, 53, 39, 33, 30, 24, 18, 12, 5, 63, 55, 48, 27, 60, 41, 37, 16, 46, 35, 44, 21, 52, 32, 23, 11, 54, 26, 40, 15, 34, 20, 31, 10, 25, 14, 19, 9, 13, 8, 7, 6]
theorem bits64_is : (Rows.laid_math_bits_deBruijn64tab : DataW Unit) = Lib.tabData .u8 bits64 := rfl
theorem glob_of_laid {W : World} {l : List (String × DataW Unit)} (h : laidMet Tryz.prog l W) (hm : ("math/bits.deBruijn64tab", Rows.laid_math_bits_deBruijn64tab) ∈ l) : GlobT W := by
  obtain ⟨g, t, cs, fuel, p, h1, h2, h3, h4⟩ := Lib.laidMet.reads h hm
  obtain rfl : g = 1 := Option.some.inj (h1.symm.trans (by kernel_rfl))
  obtain rfl : t = 78 := Option.some.inj (h2.symm.trans (by kernel_rfl))
  rw [bits64_is] at h4
  have hcs := Lib.cells_of_tab (n := 64) (e := 5) (by kernel_rfl) (by kernel_rfl) (by kernel_rfl) (by kernel_rfl) h4
  have hb : ∃ ty fr, W.heap[(1 : Nat)]? = some (.cells cs ty fr) := by
    unfold World.var? at h3
    rw [h1] at h3
    simp only [Option.bind_some] at h3
    split at h3
    · rename_i cs' ty fr hh
      cases h3
      exact ⟨ty, fr, hh⟩
    · cases h3
  obtain ⟨ty, fr, hb⟩ := hb
  refine ⟨fun i => (bits64.getD i 0).toNat, fun i hi => ?_⟩
  have hz : bits64[i]? = some (((bits64.getD i 0).toNat : Nat) : Int) ∧ (bits64.getD i 0).toNat < 256 := by
    have : ∀ j : Fin 64, bits64[j.val]? = some (((bits64.getD j.val 0).toNat : Nat) : Int) ∧ (bits64.getD j.val 0).toNat < 256 := by decide +kernel
    exact this ⟨i, hi⟩
  refine ⟨?_, hz.2⟩
  have hc : cs[i]? = some (.int .u8 (((bits64.getD i 0).toNat : Nat) : Int)) := by
    rw [← Array.getElem?_toList, hcs, List.getElem?_map, hz.1]; rfl
  simp only [World.cell?, hb]
  exact hc
end Go.Proofs.YtjeinblcpejpnabGreatDoor

/- Rows in plain words: what lists that are put together have of a key; parts of a list; what a store holds. -/
namespace Go.Proofs.YtjeinblcpejpnabGreatDoor
open Go.RowKit

theorem Ris.live {l : List Ent} (h : Ris l) : Ris (liveE l) := List.Pairwise.sublist List.filter_sublist h
theorem getE_app (a b : List Ent) (k : ByteArray) : getE (a ++ b) k = (getE a k).or (getE b k) := by
  unfold getE; rw [List.find?_append]
def liveO : Option Ent → Option Ent
  | some e => if e.gone = true then none else some e
  | none => none
theorem getE_live {l : List Ent} (h : Ris l) (k : ByteArray) : getE (liveE l) k = liveO (getE l k) := by
  induction l with
  | nil => rfl
  | cons x r ih =>
    have ih := ih h.tail
    unfold liveE at ih ⊢
    rw [List.filter_cons, getE_cons]
    by_cases hk : x.key = k
    · rw [if_pos hk]
      cases hg : x.gone with
      | false =>
        simp only [Bool.not_false, if_true]
        rw [getE_cons, if_pos hk]
        show some x = if x.gone = true then none else some x
        rw [if_neg (by simp [hg])]
      | true =>
        simp only [Bool.not_true, if_neg (by simp : ¬ false = true)]
        rw [ih, getE_none (l := r) (fun e he => by rw [← hk]; exact (h.head e he).ne.symm)]
        show none = if x.gone = true then none else some x
        rw [if_pos hg]
    · rw [if_neg hk]
      cases hg : x.gone with
      | false => simp only [Bool.not_false, if_true]; rw [getE_cons, if_neg hk, ih]
      | true => simp only [Bool.not_true, if_neg (by simp : ¬ false = true)]; exact ih
theorem getE_all {ls : List (List Ent)} (h : ∀ l ∈ ls, Ris l) (k : ByteArray) : getE (allE ls) k = getE ls.flatten k := by
  induction ls with
  | nil => rfl
  | cons a r ih =>
    have ih := ih fun l hl => h l (List.mem_cons_of_mem _ hl)
    show getE (putsE (allE r) a) k = _
    rw [getE_puts (h a (by simp)) (Ris.all r), ih, List.flatten_cons, getE_app]
/-- The last one of a key. -/
def lastK (es : List Ent) (k : ByteArray) : Option Ent := es.reverse.find? (fun e => decide (e.key = k))
theorem getE_putsL : ∀ (es : List Ent) {l : List Ent}, Ris l → ∀ k, getE (putsE l es) k = (lastK es k).or (getE l k)
  | [], l, _, k => by simp [putsE, lastK]
  | x :: r, l, h, k => by
    show getE (putsE (putE l x) r) k = _
    rw [getE_putsL r (h.put x) k, getE_put h]
    unfold lastK
    rw [List.reverse_cons, List.find?_append]
    cases hh : r.reverse.find? (fun e => decide (e.key = k)) with
    | some y => simp
    | none =>
      by_cases hk : x.key = k
      · simp [hk]
      · simp [hk]
theorem puts_mem : ∀ (es l : List Ent) (e : Ent), e ∈ putsE l es → e ∈ es ∨ e ∈ l
  | [], l, e, h => .inr h
  | x :: r, l, e, h => by
    rcases puts_mem r (putE l x) e h with h' | h'
    · exact .inl (List.mem_cons_of_mem _ h')
    · rcases putE_mem h' with rfl | h'
      · exact .inl (by simp)
      · exact .inr h'
/-- Two ways to the same rows. -/
theorem live_ext {l m : List Ent} (hl : Ris l) (hm : Ris m) (h : ∀ k, liveO (getE l k) = liveO (getE m k)) : liveE l = liveE m :=
  ris_ext _ _ hl.live hm.live fun k => by rw [getE_live hl, getE_live hm, h k]

/-- A table: its block, its entries. -/
structure Tb where
  b : Nat
  es : List Ent
def tabsE (N : List Tb) : List (List Ent) := N.map Tb.es
/-- The rows of what is at hand, of new tables, of old ones. -/
def rowsE (hand : List Ent) (N O : List Tb) : List Ent := liveE (allE (hand :: (tabsE N ++ tabsE O)))
def tabRows (N O : List Tb) : List Ent := liveE (allE (tabsE N ++ tabsE O))
theorem rowsE_ris (hand : List Ent) (N O : List Tb) : Ris (rowsE hand N O) := (Ris.all _).live
theorem tabRows_ris (N O : List Tb) : Ris (tabRows N O) := (Ris.all _).live

theorem partsE_flat (n : Nat) (hn : 1 ≤ n) (es : List Ent) : (partsE n es).flatten = es := by
  unfold partsE
  rw [parts_flat, List.take_of_length_le]
  unfold partsN
  have := Nat.div_add_mod (es.length + n - 1) n
  have h2 := Nat.mod_lt (es.length + n - 1) (show 0 < n by omega)
  have : (es.length + n - 1) / n * n = n * ((es.length + n - 1) / n) := Nat.mul_comm _ _
  omega
theorem partsE_len (n : Nat) (es : List Ent) : (partsE n es).length = partsN n es.length := by simp [partsE]
theorem partsE_ris {n : Nat} {es : List Ent} (h : Ris es) : ∀ p ∈ partsE n es, Ris p := fun p hp => by
  obtain ⟨k, _, rfl⟩ := List.mem_map.1 hp
  exact part_ris h k
theorem tabS_of : ∀ (es : List Ent) (p : Option Ent), (∀ e ∈ es, faultE e = 0) → Ris es → (∀ q, p = some q → ∀ e ∈ es, Lt q.key e.key) → tabS p es = 0
  | [], _, _, _, _ => rfl
  | x :: r, p, hf, hr, hp => by
    unfold tabS
    have h0 : faultB x.key x.val x.gone = 0 := hf x (by simp)
    have hn : notUp p x = false := by
      unfold notUp
      cases p with
      | none => rfl
      | some q =>
        have hlt := hp q rfl x (by simp)
        simp only [Bool.or_eq_false_iff]
        exact ⟨hlt.asymm |> Lt.nless, beq_ne hlt.ne.symm⟩
    rw [if_neg (by simp [h0]), hn]
    simp only [Bool.false_eq_true, if_false]
    exact tabS_of r (some x) (fun e he => hf e (List.mem_cons_of_mem _ he)) hr.tail (fun q hq e he => by cases hq; exact hr.head e he)
theorem partsE_ok {es : List Ent} (hf : ∀ e ∈ es, faultE e = 0) (hr : Ris es) : ∀ p ∈ partsE 14 es, tabF p = 0 := fun p hp => by
  obtain ⟨k, hk, rfl⟩ := List.mem_map.1 hp
  have hk' := List.mem_range.1 hk
  have hl : (partE 14 es k).length = min 14 (es.length - k * 14) := partE_len 14 es k
  have h1 : 0 < (partE 14 es k).length := by
    rw [hl]
    unfold partsN at hk'
    omega
  unfold tabF
  rw [if_neg (by omega)]
  exact tabS_of _ none (fun e he => hf e (part_mem he)) (part_ris hr k) (fun q hq => by cases hq)
/-- Parts put together are the list. -/
theorem getE_parts {es : List Ent} (hr : Ris es) (k : ByteArray) : getE (allE (partsE 14 es)) k = getE es k := by
  rw [getE_all (partsE_ris hr), partsE_flat 14 (by omega)]

/-- A page of the log: a batch, or torn. -/
def logPg : Option (List Ent) → Pg
  | some l => .whole (padD (txt (encT l)))
  | none => .torn
def logHand (h : List Ent) : Option (List Ent) → List Ent
  | some l => putsE h l
  | none => h
/-- Block g is a log, from which this is at hand. -/
structure LogAt (M : CM) (g : Nat) (hand : List Ent) : Prop where
  ex : ∃ bs : List (Option (List Ent)), M.pg g = bs.map logPg ∧ bs.length ≤ 8 ∧ (∀ l, some l ∈ bs → l.length ≤ 4 ∧ (∀ e ∈ l, faultE e = 0) ∧ (encT l).length ≤ 64) ∧ hand = bs.foldl logHand []
theorem logHand_ok : ∀ (bs : List (Option (List Ent))) (h : List Ent), Ris h → (∀ e ∈ h, faultE e = 0) → (∀ l, some l ∈ bs → l.length ≤ 4 ∧ (∀ e ∈ l, faultE e = 0)) →
    Ris (bs.foldl logHand h) ∧ (∀ e ∈ bs.foldl logHand h, faultE e = 0) ∧ (bs.foldl logHand h).length ≤ h.length + 4 * bs.length
  | [], h, hr, hf, _ => ⟨hr, hf, by simp⟩
  | o :: bs, h, hr, hf, hb => by
    have key : Ris (logHand h o) ∧ (∀ e ∈ logHand h o, faultE e = 0) ∧ (logHand h o).length ≤ h.length + 4 := by
      cases o with
      | none => exact ⟨hr, hf, by show h.length ≤ h.length + 4; omega⟩
      | some l =>
        obtain ⟨h4, hl⟩ := hb l (by simp)
        refine ⟨hr.puts l, fun e he => ?_, ?_⟩
        · rcases puts_mem l h e he with h' | h'
          · exact hl e h'
          · exact hf e h'
        · have := puts_len h l
          show (putsE h l).length ≤ _
          omega
    obtain ⟨k1, k2, k3⟩ := key
    obtain ⟨i1, i2, i3⟩ := logHand_ok bs (logHand h o) k1 k2 (fun l hl => hb l (List.mem_cons_of_mem _ hl))
    refine ⟨i1, i2, ?_⟩
    show (bs.foldl logHand (logHand h o)).length ≤ _
    simp only [List.length_cons]; omega
theorem LogAt.ris {M : CM} {g : Nat} {hand : List Ent} (h : LogAt M g hand) : Ris hand ∧ (∀ e ∈ hand, faultE e = 0) ∧ hand.length ≤ 32 := by
  obtain ⟨bs, _, h8, hb, rfl⟩ := h.ex
  obtain ⟨h1, h2, h3⟩ := logHand_ok bs [] Ris.nil (by simp) (fun l hl => ⟨(hb l hl).1, (hb l hl).2.1⟩)
  refine ⟨h1, h2, ?_⟩
  simp at h3; omega
theorem LogAt.blank {M : CM} {g : Nat} (h : M.pg g = []) : LogAt M g [] := ⟨[], by simpa using h, by simp, by simp, rfl⟩
theorem LogAt.same {M M' : CM} {g : Nat} {hand : List Ent} (h : LogAt M g hand) (e : M'.pg g = M.pg g) : LogAt M' g hand := by
  obtain ⟨bs, h1, h2⟩ := h.ex
  exact ⟨bs, by rw [e]; exact h1, h2⟩
theorem LogAt.snoc {M M' : CM} {g : Nat} {hand l : List Ent} (h : LogAt M g hand) (hl : (M.pg g).length < 8) (e : M'.pg g = M.pg g ++ [.whole (padD (txt (encT l)))]) (h4 : l.length ≤ 4) (hf : ∀ e ∈ l, faultE e = 0) (h64 : (encT l).length ≤ 64) : LogAt M' g (putsE hand l) := by
  obtain ⟨bs, h1, h2, h3, rfl⟩ := h.ex
  refine ⟨bs ++ [some l], by rw [e, h1]; simp [logPg], by rw [h1] at hl; simp at hl ⊢; omega, fun x hx => ?_, by simp [logHand]⟩
  rcases List.mem_append.1 hx with hx | hx
  · exact h3 x hx
  · simp at hx; subst hx; exact ⟨h4, hf, h64⟩
theorem LogAt.torn {M M' : CM} {g : Nat} {hand : List Ent} (h : LogAt M g hand) (hl : (M.pg g).length < 8) (e : M'.pg g = M.pg g ++ [.torn]) : LogAt M' g hand := by
  obtain ⟨bs, h1, h2, h3, rfl⟩ := h.ex
  refine ⟨bs ++ [none], by rw [e, h1]; simp [logPg], by rw [h1] at hl; simp at hl ⊢; omega, fun x hx => ?_, by simp [logHand]⟩
  rcases List.mem_append.1 hx with hx | hx
  · exact h3 x hx
  · simp at hx

/-- A store is as it should be. -/
structure Inv (n : Nat) (M : CM) (m : Man) (a : Nat) (hand : List Ent) (N O : List Tb) : Prop where
  nst : Nst M a (some m)
  ok : manFault m = 0
  ep : m.ep ≤ n
  wr : ∀ b, M.wr b ≤ n
  nw : m.nw = N.map (fun x => (x.b : Int))
  od : m.od = O.map (fun x => (x.b : Int))
  tn : ∀ x ∈ N, TabAt M x.b x.es
  told : ∀ x ∈ O, TabAt M x.b x.es
  lg : ∃ g : Nat, m.lg = (g : Int) ∧ LogAt M g hand
  ris : Ris (tabsE O).flatten
  live : ∀ e ∈ (tabsE O).flatten, e.gone = false
  few : N.length ≤ 5
  few' : O.length ≤ 3
  rows : (rowsE hand N O).length ≤ 40
  trows : (tabRows N O).length ≤ 40
  bw : ∀ b, M.bd b = true → M.wk b = true
  wk : wkN M.wk ≤ 6
end Go.Proofs.YtjeinblcpejpnabGreatDoor
