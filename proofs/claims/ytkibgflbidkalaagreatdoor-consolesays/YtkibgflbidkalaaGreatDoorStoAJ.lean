/- ChpW StoA. -/
import Derived.Test.YtkibgflbidkalaaGreatDoorChpCJ
import Derived.Test.YtkibgflbidkalaaGreatDoorStoNJ
import Derived.Test.YtkibgflbidkalaaGreatDoorTowFJ
import Derived.Deep.RegionHeld3

/- The chip: Wear, Bad, Weaken. -/
namespace Go.Proofs.YtkibgflbidkalaaGreatDoor
open Go.RowKit

set_option maxHeartbeats 400000 in
theorem wear_any (cb b : Nat) (M : CM) (w : World) (hb : b < 24) (h : ChipAt w cb M) :
    Calls Tryz.prog 76 #[.pointer (some ⟨cb, 0, none⟩), .int .i64 (b : Int)] w fun e w' => e = .returned (.int .i64 (M.wr b : Int)) ∧ w' = w := by
  obtain ⟨_, c0, _, _⟩ := h.at hb
  have h1 : (0 : Int) ≤ b := by omega
  have h2 : (b : Int) < 24 := by omega
  clear h
  generalize (M.wr b : Int) = n at *
  go_enter Tryz.func76, Tryz.ntmps76
  go_wp2_with (go_at_call 78; refine (there_yes _ _ h1 h2).mono ?_; rintro e w' ⟨rfl, rfl⟩)
  go_ret
  exact ⟨rfl, rfl⟩
set_option maxHeartbeats 400000 in
theorem bad_any (cb b : Nat) (M : CM) (w : World) (hb : b < 24) (h : ChipAt w cb M) :
    Calls Tryz.prog 75 #[.pointer (some ⟨cb, 0, none⟩), .int .i64 (b : Int)] w fun e w' => e = .returned (.bool (M.bd b)) ∧ w' = w := by
  obtain ⟨_, _, _, c0⟩ := h.at hb
  have h1 : (0 : Int) ≤ b := by omega
  have h2 : (b : Int) < 24 := by omega
  clear h
  generalize M.bd b = n at *
  go_enter Tryz.func75, Tryz.ntmps75
  go_wp2_with (go_at_call 78; refine (there_yes _ _ h1 h2).mono ?_; rintro e w' ⟨rfl, rfl⟩)
  go_ret
  exact ⟨rfl, rfl⟩

end Go.Proofs.YtkibgflbidkalaaGreatDoor

/- A store's small functions: inUse, free, readBatch, TrailingZeros, putAll. -/
namespace Go.Proofs.YtkibgflbidkalaaGreatDoor
open Go.RowKit Go.WideShapes

def names (m : Man) : List Int := m.lg :: (m.nw ++ m.od)
set_option maxRecDepth 20000 in
set_option maxHeartbeats 4000000 in
theorem inUse_any (m : Man) (no oo : Option Addr) (nc oc : Nat) (w : World) (hl : m.nw.length + m.od.length ≤ 100) (hr : ∀ x ∈ names m, 0 ≤ x ∧ x < 24) (hn : NumsAt w no m.nw) (ho : NumsAt w oo m.od) :
    Calls Tryz.prog 23 #[.agg #[.int .i64 m.ep, .int .i64 m.lg, .slice no m.nw.length nc, .slice oo m.od.length oc]] w fun e w' => e = .returned (.pointer (some ⟨w.heap.size + 1, 0, none⟩)) ∧ Blk w' (w.heap.size + 1) (usedC (names m)) 99 ∧ Ext w w' := by
  obtain ⟨ep, lg, nw, od⟩ := m
  unfold names at *
  dsimp only at *
  have CC : Hid (∀ o1 o2 t1 t2, Calls Tryz.prog 42 #[.slice (some ⟨w.heap.size + 1 + 1 + 1, 0, none⟩) 3 3] ((((w.alloc o1).alloc o2).alloc (.cells #[.int .i64 lg] t1)).alloc (.cells #[.slice (some ⟨w.heap.size + 1 + 1, 0, none⟩) 1 1, .slice no nw.length nc, .slice oo od.length oc] t2)) fun e w' =>
      ∃ b off c, e = .returned (.slice (some ⟨b, off, none⟩) (lg :: (nw ++ od)).length c) ∧ NumsAt w' (some ⟨b, off, none⟩) (lg :: (nw ++ od)) ∧ Ext ((((w.alloc o1).alloc o2).alloc (.cells #[.int .i64 lg] t1)).alloc (.cells #[.slice (some ⟨w.heap.size + 1 + 1, 0, none⟩) 1 1, .slice no nw.length nc, .slice oo od.length oc] t2)) w' ∧
        w.heap.size + 1 + 1 + 1 + 1 ≤ b ∧ b < w'.heap.size) := fun o1 o2 t1 t2 => by
    have hx : Ext w ((((w.alloc o1).alloc o2).alloc (.cells #[.int .i64 lg] t1)).alloc (.cells #[.slice (some ⟨w.heap.size + 1 + 1, 0, none⟩) 1 1, .slice no nw.length nc, .slice oo od.length oc] t2)) := ((((Ext.refl w).alloc o1).alloc o2).alloc _).alloc _
    have := concat3 _ (w.heap.size + 1 + 1) (w.heap.size + 1 + 1 + 1) lg no oo nc oc nw od t1 t2 (Blk.alloc (Blk.new' ((w.alloc o1).alloc o2) #[.int .i64 lg] t1 (by simp)) (.cells #[.slice (some ⟨w.heap.size + 1 + 1, 0, none⟩) 1 1, .slice no nw.length nc, .slice oo od.length oc] t2)) (Blk.new' _ _ _ (by simp)) (hn.ext hx) (ho.ext hx) hl
    refine this.mono ?_
    rintro e w' ⟨b, off, c, h1, h2, h3, h4, h5⟩
    exact ⟨b, off, c, h1, h2, h3, by simpa using h4, h5⟩
  go_enter Tryz.func23, Tryz.ntmps23
  go_wp2_with (go_at_call 42; refine (CC.out _ _ _ _).mono ?_; rintro e w5 ⟨b, off, c, rfl, hN, hx, hb1, hb2⟩)
  have hU5 : Blk w5 (w.heap.size + 1) (usedC []) 99 := by
    rw [usedC_nil]
    exact Blk.ext hx (Blk.alloc (Blk.alloc (Blk.new' _ _ _ (by simp)) _) _)
  have hxw : Ext w w5 := Ext.trans ((((Ext.refl w).alloc _).alloc _).alloc _ |>.alloc _) hx
  have hbn : b ≠ w.heap.size + 1 := by omega
  have hus := hU5.lt
  clear hx CC hn ho hb1
  have hal : (lg :: (nw ++ od)).length ≤ 200 := by simp; omega
  have hlen : (lg :: (nw ++ od)).length = nw.length + od.length + 1 := by simp
  have HR : Hid (∀ x ∈ lg :: (nw ++ od), 0 ≤ x ∧ x < 24) := hr
  clear hr
  generalize hall : lg :: (nw ++ od) = all at *
  have HA : Hid (lg :: (nw ++ od) = all) := hall
  have HLN : Hid (all.length = nw.length + od.length + 1) := hlen
  clear hlen hall
  go_loopw [5, 16] (fun _ i wr => ∃ k : Nat, k ≤ all.length ∧ i = .int .i64 k ∧ Blk wr (w.heap.size + 1) (usedC (all.take k)) 99 ∧ NumsAt wr (some ⟨b, off, none⟩) all ∧ Ext w wr) (fun _ i _ => all.length - (intOf i).toNat)
  case atStart => exact ⟨0, Nat.zero_le _, rfl, hU5, hN, hxw⟩
  case round =>
    clear hU5 hN hxw
    obtain ⟨k, hk, rfl, hU, hN, hx⟩ := hrel
    by_cases hlt : k < all.length
    · obtain ⟨b', off', x, hbb, he, h1⟩ := hN.get hlt
      obtain ⟨rfl, rfl⟩ : b' = b ∧ off' = off := by simp at hbb; exact ⟨hbb.1.symm, hbb.2.symm⟩
      have hkI : (k : Int) < (nw.length : Int) + (od.length : Int) + 1 := by have := HLN.out; omega
      obtain ⟨r1, r2⟩ := HR.out x (List.mem_of_getElem? he)
      obtain ⟨n, rfl⟩ : ∃ n : Nat, x = (n : Int) := ⟨x.toNat, by omega⟩
      have hn24 : n < 24 := by omega
      have hu : wr.cell? ⟨w.heap.size + 1, n, none⟩ = some (.bool (decide ((n : Int) ∈ all.take k))) := by rw [hU.cell, usedC_get _ _ hn24]
      have huf := hU.free n
      have hul := hU.lt
      have hU2 : Hid (Blk (wr.setCell ⟨w.heap.size + 1, n, none⟩ (.bool true)) (w.heap.size + 1) (usedC (all.take (k + 1))) 99) := by
        have := hU.set n (.bool true)
        rw [usedC_set] at this
        have e : all.take (k + 1) = all.take k ++ [(n : Int)] := by rw [List.take_add_one, he]; rfl
        rw [Hid, e]; exact this
      have hN2 : Hid (NumsAt (wr.setCell ⟨w.heap.size + 1, n, none⟩ (.bool true)) (some ⟨b', off', none⟩) all) := hN.set hbn _ _
      have hx2 : Hid (Ext w (wr.setCell ⟨w.heap.size + 1, n, none⟩ (.bool true))) := hx.set (by simp) _
      generalize decide ((n : Int) ∈ all.take k) = dd at *
      clear he hN hU hx
      go_wp2
      go_roundw
      case rel => exact ⟨k + 1, by omega, by go_num, hU2.out, hN2.out, hx2.out⟩
      case measure => simp [intOf]; omega
    · have hkI : ¬ ((k : Int) < (nw.length : Int) + (od.length : Int) + 1) := by have := HLN.out; omega
      have HU : Hid (Blk wr (w.heap.size + 1) (usedC all) 99) := by
        rw [List.take_of_length_le (by omega)] at hU; exact hU
      clear hN hU
      go_wp2
      go_ret
      exact ⟨rfl, by rw [HA.out]; exact HU.out, hx⟩
def freeV (o : Option Nat) : Value := .tuple #[.int .i64 ((o.getD 0 : Nat) : Int), .bool o.isSome]
set_option maxRecDepth 20000 in
set_option maxHeartbeats 4000000 in
theorem free_any (cb ub : Nat) (M : CM) (L : List Int) (w : World) (h : ChipAt w cb M) (hu : Blk w ub (usedC L) 99) :
    Calls Tryz.prog 41 #[.pointer (some ⟨cb, 0, none⟩), .pointer (some ⟨ub, 0, none⟩)] w fun e w' => e = .returned (freeV (freeS M L)) ∧ w' = w := by
  have HB : Hid (∀ b : Nat, b < 24 → Calls Tryz.prog 75 #[.pointer (some ⟨cb, 0, none⟩), .int .i64 (b : Int)] w fun e w' => e = .returned (.bool (M.bd b)) ∧ w' = w) := fun b hb => bad_any cb b M w hb h
  have HW : Hid (∀ b : Nat, b < 24 → Calls Tryz.prog 76 #[.pointer (some ⟨cb, 0, none⟩), .int .i64 (b : Int)] w fun e w' => e = .returned (.int .i64 (M.wr b : Int)) ∧ w' = w) := fun b hb => wear_any cb b M w hb h
  have HC : Hid (∀ n : Nat, n < 24 → w.cell? ⟨ub, n, none⟩ = some (.bool (decide ((n : Int) ∈ L)))) := fun n hn => by rw [hu.cell, usedC_get _ _ hn]
  have hul := hu.lt
  clear h hu
  go_enter Tryz.func41, Tryz.ntmps41
  go_wp2
  go_loop [6, 7, 8] (fun lv iv i => ∃ k : Nat, k ≤ 22 ∧ i = .int .i64 ((k : Int) + 2) ∧ lv = .int .i64 (((freeTo M L k).getD 0 : Nat) : Int) ∧ iv = .bool (freeTo M L k).isSome) (fun _ _ i => 24 - (intOf i).toNat)
  case atStart => exact ⟨0, by omega, rfl, rfl, rfl⟩
  case round =>
    obtain ⟨k, hk, rfl, rfl, rfl⟩ := hrel
    have ek : (((k : Int) + 2).toNat) = k + 2 := by omega
    by_cases hlt : k < 22
    · have hb := HB.out (k + 2) (by omega)
      have hw := HW.out (k + 2) (by omega)
      have hc := HC.out (k + 2) (by omega)
      rw [show ((k + 2 : Nat) : Int) = (k : Int) + 2 by omega] at hb hw hc
      have HN : Hid (freeTo M L (k + 1) = if ((k + 2 : Nat) : Int) ∈ L ∨ M.bd (k + 2) = true then freeTo M L k else match freeTo M L k with | none => some (k + 2) | some l => if M.wr (k + 2) < M.wr l then some (k + 2) else some l) := rfl
      have HF : Hid (∀ b, freeTo M L k = some b → b < 24) := fun b hb => by have := ((freeTo_is M L k).1 b hb).lt; omega
      rw [show ((k + 2 : Nat) : Int) = (k : Int) + 2 by omega] at HN
      clear HB HC
      by_cases hd : (k : Int) + 2 ∈ L
      · rw [decide_eq_true hd] at hc
        have HN2 : Hid (freeTo M L (k + 1) = freeTo M L k) := by rw [Hid, HN.out, if_pos (.inl hd)]
        clear HN HF hb hw HW hd
        go_wp2
        go_round
        case rel => exact ⟨k + 1, by omega, by go_num, by rw [HN2.out], by rw [HN2.out]⟩
        case measure => simp [intOf]; omega
      · rw [decide_eq_false hd] at hc
        cases hbd : M.bd (k + 2) with
        | true =>
          have HN2 : Hid (freeTo M L (k + 1) = freeTo M L k) := by rw [Hid, HN.out, if_pos (.inr hbd)]
          rw [hbd] at hb
          have HB : Hid (Calls Tryz.prog 75 #[.pointer (some ⟨cb, 0, none⟩), .int .i64 ((k : Int) + 2)] w fun e w' => e = .returned (.bool true) ∧ w' = w) := hb
          clear HN HF hb hw HW hd
          go_wp2_with (go_at_call 75; refine HB.out.mono ?_; rintro e w1 ⟨rfl, rfl⟩)
          go_round
          case rel => exact ⟨k + 1, by omega, by go_num, by rw [HN2.out], by rw [HN2.out]⟩
          case measure => simp [intOf]; omega
        | false =>
          rw [hbd] at hb
          have HB : Hid (Calls Tryz.prog 75 #[.pointer (some ⟨cb, 0, none⟩), .int .i64 ((k : Int) + 2)] w fun e w' => e = .returned (.bool false) ∧ w' = w) := hb
          have HN2 : Hid (freeTo M L (k + 1) = match freeTo M L k with | none => some (k + 2) | some l => if M.wr (k + 2) < M.wr l then some (k + 2) else some l) := by
            rw [Hid, HN.out, if_neg (by simp [hd, hbd])]
          clear HN hb hd
          have HW1 : Hid (Calls Tryz.prog 76 #[.pointer (some ⟨cb, 0, none⟩), .int .i64 ((k : Int) + 2)] w fun e w' => e = .returned (.int .i64 (M.wr (k + 2) : Int)) ∧ w' = w) := hw
          clear hw
          cases ho : freeTo M L k with
          | none =>
            rw [ho] at HN2
            have HN3 : Hid (freeTo M L (k + 1) = some (k + 2)) := HN2.out
            clear HN2 HF HW HW1
            go_wp2_with (go_at_call 75; refine HB.out.mono ?_; rintro e w1 ⟨rfl, rfl⟩)
            go_round
            case rel => exact ⟨k + 1, by omega, by go_num, by rw [HN3.out]; rfl, by rw [HN3.out]; rfl⟩
            case measure => simp [intOf]; omega
          | some l =>
            have hl := HF.out l ho
            have HW2 : Hid (Calls Tryz.prog 76 #[.pointer (some ⟨cb, 0, none⟩), .int .i64 (l : Int)] w fun e w' => e = .returned (.int .i64 (M.wr l : Int)) ∧ w' = w) := HW.out l hl
            rw [ho] at HN2
            have HN3 : Hid (freeTo M L (k + 1) = if M.wr (k + 2) < M.wr l then some (k + 2) else some l) := HN2.out
            clear HN2 HF HW ho
            by_cases hlw : M.wr (k + 2) < M.wr l
            · have HN4 : Hid (freeTo M L (k + 1) = some (k + 2)) := by rw [Hid, HN3.out, if_pos hlw]
              have hlw' : (M.wr (k + 2) : Int) < (M.wr l : Int) := by omega
              clear HN3 hlw
              generalize M.wr (k + 2) = x1 at *
              generalize M.wr l = x2 at *
              have t1 : True := trivial
              go_wp2_with (first
                | (go_at_call 75; refine HB.out.mono ?_; rintro e w1 ⟨rfl, rfl⟩)
                | (go_at_call 76; have _t := t1; refine HW1.out.mono ?_; rintro e w1 ⟨rfl, rfl⟩; clear t1)
                | (go_at_call 76; refine HW2.out.mono ?_; rintro e w1 ⟨rfl, rfl⟩))
              go_round
              case rel => exact ⟨k + 1, by omega, by go_num, by rw [HN4.out]; rfl, by rw [HN4.out]; rfl⟩
              case measure => simp [intOf]; omega
            · have HN4 : Hid (freeTo M L (k + 1) = some l) := by rw [Hid, HN3.out, if_neg hlw]
              have hlw' : ¬ (M.wr (k + 2) : Int) < (M.wr l : Int) := by omega
              clear HN3 hlw
              generalize M.wr (k + 2) = x1 at *
              generalize M.wr l = x2 at *
              have t1 : True := trivial
              go_wp2_with (first
                | (go_at_call 75; refine HB.out.mono ?_; rintro e w1 ⟨rfl, rfl⟩)
                | (go_at_call 76; have _t := t1; refine HW1.out.mono ?_; rintro e w1 ⟨rfl, rfl⟩; clear t1)
                | (go_at_call 76; refine HW2.out.mono ?_; rintro e w1 ⟨rfl, rfl⟩))
              go_round
              case rel => exact ⟨k + 1, by omega, by go_num, by rw [HN4.out]; rfl, by rw [HN4.out]; rfl⟩
              case measure => simp [intOf]; omega
    · obtain rfl : k = 22 := by omega
      clear HB HW HC
      go_wp2
      go_ret2
      exact ⟨rfl, rfl⟩
def GlobT (w : World) : Prop := ∃ f : Nat → Nat, ∀ i : Nat, i < 64 → w.cell? ⟨1, i, none⟩ = some (.int .u8 (f i : Int)) ∧ f i < 256
theorem GlobT.ext {w w' : World} (h : GlobT w) (hx : Ext w w') : GlobT w' := by
  obtain ⟨f, hf⟩ := h
  exact ⟨f, fun i hi => ⟨hx.cell (hf i hi).1, (hf i hi).2⟩⟩
set_option maxRecDepth 20000 in
set_option maxHeartbeats 1000000 in
theorem tz_any (x : Nat) (w : World) (h1 : 1 ≤ x) (hx : x ≤ 1000) (hg : GlobT w) :
    Calls Tryz.prog 85 #[.int .u64 (x : Int)] w fun e w' => (∃ n : Nat, n < 256 ∧ e = .returned (.int .i64 (n : Int))) ∧ w' = w := by
  obtain ⟨f, hf⟩ := hg
  have hE : 0 ≤ IntKind.u64.wrap (bits BinOp.and IntKind.u64 (x : Int) (IntKind.u64.wrap (-(x : Int))) * 285870213051353865) / 288230376151711744 ∧ IntKind.u64.wrap (bits BinOp.and IntKind.u64 (x : Int) (IntKind.u64.wrap (-(x : Int))) * 285870213051353865) / 288230376151711744 < 64 := by
    generalize bits BinOp.and IntKind.u64 (x : Int) (IntKind.u64.wrap (-(x : Int))) * 285870213051353865 = y
    rw [IntKind.wrap_u64]
    omega
  have hc := hf (IntKind.u64.wrap (bits BinOp.and IntKind.u64 (x : Int) (IntKind.u64.wrap (-(x : Int))) * 285870213051353865) / 288230376151711744).toNat (by omega)
  obtain ⟨hc1, hc2⟩ := hc
  obtain ⟨hE1, hE2⟩ := hE
  have hx0 : ((x : Int) == 0) = false := by simp; omega
  clear hf
  generalize f (IntKind.u64.wrap (bits BinOp.and IntKind.u64 (x : Int) (IntKind.u64.wrap (-(x : Int))) * 285870213051353865) / 288230376151711744).toNat = n at *
  go_enter Tryz.func85, Tryz.ntmps85
  go_wp2
  go_ret
  exact ⟨⟨n, hc2, rfl⟩, rfl⟩
end Go.Proofs.YtkibgflbidkalaaGreatDoor
