
/- Manifests: Check. -/
import Derived.Test.YtpldeejagomfjaaIntL
namespace Go.Proofs.Ytpldeejagomfjaa
open Go.RowKit

/-- What is wrong with numbers of blocks, one behind the other. -/
def scan (seen : List Int) : List Int → Int
  | [] => 0
  | b :: r => if b < 2 ∨ 24 ≤ b then 1 else if b ∈ seen then 3 else scan (seen ++ [b]) r
/-- What is wrong with a manifest. -/
def manF (ep lg : Int) (nw od : List Int) : Int := if ep < 1 ∨ 100000 < ep then 1 else scan [] (lg :: (nw ++ od))
def errN (n : Int) : Value := if n = 0 then .nilIface else .iface 123 (.int .i64 n)
theorem scan_step (l : List Int) (k : Nat) (x : Int) (h : l[k]? = some x) : scan (l.take k) (l.drop k) = if x < 2 ∨ 24 ≤ x then 1 else if x ∈ l.take k then 3 else scan (l.take (k + 1)) (l.drop (k + 1)) := by
  obtain ⟨hlt, rfl⟩ := List.getElem?_eq_some_iff.1 h
  rw [List.drop_eq_getElem_cons hlt, scan, List.take_add_one, h]; rfl
/-- Which are used. -/
def usedC (l : List Int) : Array Value := ((List.range 24).map fun i : Nat => Value.bool (decide ((i : Int) ∈ l))).toArray
theorem usedC_nil : usedC [] = #[.bool false, .bool false, .bool false, .bool false, .bool false, .bool false, .bool false, .bool false, .bool false, .bool false, .bool false, .bool false, .bool false, .bool false, .bool false, .bool false, .bool false, .bool false, .bool false, .bool false, .bool false, .bool false, .bool false, .bool false] := by rfl
theorem usedC_get (l : List Int) (n : Nat) (h : n < 24) : (usedC l)[n]? = some (.bool (decide ((n : Int) ∈ l))) := by
  simp [usedC, h]
theorem usedC_set (l : List Int) (n : Nat) : (usedC l).setIfInBounds n (.bool true) = usedC (l ++ [(n : Int)]) := by
  apply Array.ext
  · simp [usedC]
  · intro i h1 h2
    simp [usedC] at h1
    rw [Array.getElem_setIfInBounds (by simpa [usedC] using h1)]
    simp only [usedC, List.getElem_toArray, List.getElem_map, List.getElem_range]
    by_cases e : n = i
    · subst e; simp
    · rw [if_neg e]
      have : ¬ (i : Int) = (n : Int) := by omega
      simp [this]
theorem cell_away (W : World) {a b : Nat} (h : b ≠ a) (i j : Nat) (v : Value) : (W.setCell ⟨a, i, none⟩ v).cell? ⟨b, j, none⟩ = W.cell? ⟨b, j, none⟩ := by
  have := Below.heap_setCell W ⟨a, i, none⟩ v b h
  simp [World.cell?, this]
theorem NumsAt.set {w : World} {b off : Nat} {xs : List Int} (h : NumsAt w (some ⟨b, off, none⟩) xs) {a : Nat} (hne : b ≠ a) (i : Nat) (v : Value) : NumsAt (w.setCell ⟨a, i, none⟩ v) (some ⟨b, off, none⟩) xs := fun hx => by
  obtain ⟨b', off', e, hc⟩ := h hx
  cases e
  exact ⟨b, off, rfl, fun j x hj => by rw [cell_away _ hne]; exact hc j x hj⟩
theorem listsI3 {w : World} {b : Nat} {t : TypeId} (A B C : LI) (h : Blk w b #[.slice A.ao A.xs.length A.cap, .slice B.ao B.xs.length B.cap, .slice C.ao C.xs.length C.cap] t)
    (hA : NumsAt w A.ao A.xs) (hB : NumsAt w B.ao B.xs) (hC : NumsAt w C.ao C.xs) : ListsI w (some ⟨b, 0, none⟩) [A, B, C] := by
  intro _
  refine ⟨b, 0, rfl, fun i l hl => ?_⟩
  rw [Nat.zero_add, h.cell]
  match i with
  | 0 => simp at hl; subst hl; exact ⟨rfl, hA⟩
  | 1 => simp at hl; subst hl; exact ⟨rfl, hB⟩
  | 2 => simp at hl; subst hl; exact ⟨rfl, hC⟩
  | n + 3 => simp at hl
/-- Three lists are put together: where they lie. -/
theorem concat3 (w : World) (b1 b2 : Nat) (lg : Int) (no oo : Option Addr) (nc oc : Nat) (nw od : List Int) (t1 t2 : TypeId) (h1 : Blk w b1 #[.int .i64 lg] t1) (h2 : Blk w b2 #[.slice (some ⟨b1, 0, none⟩) 1 1, .slice no nw.length nc, .slice oo od.length oc] t2)
    (hn : NumsAt w no nw) (ho : NumsAt w oo od) (hl : nw.length + od.length ≤ 100) :
    Calls Try.prog 99 #[.slice (some ⟨b2, 0, none⟩) 3 3] w fun e w' => ∃ b off c, e = .returned (.slice (some ⟨b, off, none⟩) (lg :: (nw ++ od)).length c) ∧ NumsAt w' (some ⟨b, off, none⟩) (lg :: (nw ++ od)) ∧ Ext w w' ∧ w.heap.size ≤ b ∧ b < w'.heap.size := by
  have hc : cat [⟨[lg], some ⟨b1, 0, none⟩, 1⟩, ⟨nw, no, nc⟩, ⟨od, oo, oc⟩] = lg :: (nw ++ od) := by simp [cat]
  have := concat_any (some ⟨b2, 0, none⟩) 3 [⟨[lg], some ⟨b1, 0, none⟩, 1⟩, ⟨nw, no, nc⟩, ⟨od, oo, oc⟩] w (by simp) (by rw [hc]; simp; omega) (listsI3 ⟨[lg], some ⟨b1, 0, none⟩, 1⟩ ⟨nw, no, nc⟩ ⟨od, oo, oc⟩ h2 (nums_blk h1) hn ho)
  rw [hc] at this
  refine this.mono ?_
  rintro e w' ⟨v, rfl, hI⟩
  obtain ⟨ao, cap, hv, ha⟩ := hI.at
  obtain ⟨b, off, rfl, _⟩ := id ha (by simp)
  have hlt := hI.own.lt b (by rw [hv]; rfl)
  exact ⟨b, off, cap, by rw [hv], ha, hI.ext, hlt⟩

set_option maxRecDepth 20000 in
set_option maxHeartbeats 4000000 in
theorem manCheck_any (ep lg : Int) (no oo : Option Addr) (nc oc : Nat) (nw od : List Int) (w : World) (hl : nw.length + od.length ≤ 100) (hn : NumsAt w no nw) (ho : NumsAt w oo od) :
    Calls Try.prog 74 #[.agg #[.int .i64 ep, .int .i64 lg, .slice no nw.length nc, .slice oo od.length oc]] w fun e w' => e = .returned (errN (manF ep lg nw od)) ∧ Ext w w' := by
  by_cases he : ep < 1 ∨ 100000 < ep
  · have HE : Hid (manF ep lg nw od = 1) := by unfold Hid manF; rw [if_pos he]
    by_cases he1 : ep < 1
    · clear he hn ho
      go_enter Try.func74, Try.ntmps74
      go_wp2
      go_ret
      exact ⟨by rw [HE.out]; rfl, (Ext.refl _).alloc _⟩
    · have he2 : 100000 < ep := by omega
      clear he hn ho
      go_enter Try.func74, Try.ntmps74
      go_wp2
      go_ret
      exact ⟨by rw [HE.out]; rfl, (Ext.refl _).alloc _⟩
  · have h1 : ¬ ep < 1 := by omega
    have h2 : ¬ 100000 < ep := by omega
    have HE : Hid (manF ep lg nw od = scan [] (lg :: (nw ++ od))) := by unfold Hid manF; rw [if_neg he]
    clear he
    have CC : Hid (∀ o1 o2 t1 t2, Calls Try.prog 99 #[.slice (some ⟨w.heap.size + 1 + 1 + 1, 0, none⟩) 3 3] ((((w.alloc o1).alloc o2).alloc (.cells #[.int .i64 lg] t1)).alloc (.cells #[.slice (some ⟨w.heap.size + 1 + 1, 0, none⟩) 1 1, .slice no nw.length nc, .slice oo od.length oc] t2)) fun e w' =>
        ∃ b off c, e = .returned (.slice (some ⟨b, off, none⟩) (lg :: (nw ++ od)).length c) ∧ NumsAt w' (some ⟨b, off, none⟩) (lg :: (nw ++ od)) ∧ Ext ((((w.alloc o1).alloc o2).alloc (.cells #[.int .i64 lg] t1)).alloc (.cells #[.slice (some ⟨w.heap.size + 1 + 1, 0, none⟩) 1 1, .slice no nw.length nc, .slice oo od.length oc] t2)) w' ∧
          w.heap.size + 1 + 1 + 1 + 1 ≤ b ∧ b < w'.heap.size) := fun o1 o2 t1 t2 => by
      have hx : Ext w ((((w.alloc o1).alloc o2).alloc (.cells #[.int .i64 lg] t1)).alloc (.cells #[.slice (some ⟨w.heap.size + 1 + 1, 0, none⟩) 1 1, .slice no nw.length nc, .slice oo od.length oc] t2)) := ((((Ext.refl w).alloc o1).alloc o2).alloc _).alloc _
      have := concat3 _ (w.heap.size + 1 + 1) (w.heap.size + 1 + 1 + 1) lg no oo nc oc nw od t1 t2 (Blk.alloc (Blk.new' ((w.alloc o1).alloc o2) #[.int .i64 lg] t1 (by simp)) (.cells #[.slice (some ⟨w.heap.size + 1 + 1, 0, none⟩) 1 1, .slice no nw.length nc, .slice oo od.length oc] t2)) (Blk.new' _ _ _ (by simp)) (hn.ext hx) (ho.ext hx) hl
      refine this.mono ?_
      rintro e w' ⟨b, off, c, h1, h2, h3, h4, h5⟩
      exact ⟨b, off, c, h1, h2, h3, by simpa using h4, h5⟩
    go_enter Try.func74, Try.ntmps74
    go_wp2_with (go_at_call 99; refine (CC.out _ _ _ _).mono ?_; rintro e w5 ⟨b, off, c, rfl, hN, hx, hb1, hb2⟩)
    have hU5 : Blk w5 (w.heap.size + 1) (usedC []) 58 := by
      rw [usedC_nil]
      exact Blk.ext hx (Blk.alloc (Blk.alloc (Blk.new' _ _ _ (by simp)) _) _)
    have hxw : Ext w w5 := Ext.trans ((((Ext.refl w).alloc _).alloc _).alloc _ |>.alloc _) hx
    have hbn : b ≠ w.heap.size + 1 := by omega
    have hus := hU5.lt
    clear hx CC hn ho hb1
    have hal : (lg :: (nw ++ od)).length ≤ 200 := by simp; omega
    have hlen : (lg :: (nw ++ od)).length = nw.length + od.length + 1 := by simp
    generalize lg :: (nw ++ od) = all at *
    have HLN : Hid (all.length = nw.length + od.length + 1) := hlen
    clear hlen
    have HS0 : scan [] all = scan (all.take 0) (all.drop 0) := by simp
    go_loopw [5, 25] (fun _ i wr => ∃ k : Nat, k ≤ all.length ∧ i = .int .i64 k ∧ scan [] all = scan (all.take k) (all.drop k) ∧ Blk wr (w.heap.size + 1) (usedC (all.take k)) 58 ∧ NumsAt wr (some ⟨b, off, none⟩) all ∧ Ext w wr) (fun _ i _ => all.length - (intOf i).toNat)
    case atStart => exact ⟨0, Nat.zero_le _, rfl, HS0, hU5, hN, hxw⟩
    case round =>
      clear hU5 hN hxw HS0
      obtain ⟨k, hk, rfl, hsc, hU, hN, hx⟩ := hrel
      by_cases hlt : k < all.length
      · obtain ⟨b', off', x, hbb, he, h1⟩ := hN.get hlt
        obtain ⟨rfl, rfl⟩ : b' = b ∧ off' = off := by simp at hbb; exact ⟨hbb.1.symm, hbb.2.symm⟩
        have hst := scan_step all k x he
        have hkI : (k : Int) < (nw.length : Int) + (od.length : Int) + 1 := by have := HLN.out; omega
        rw [hst] at hsc
        by_cases hr : x < 2 ∨ 24 ≤ x
        · rw [if_pos hr] at hsc
          have HSC : Hid (scan [] all = 1) := hsc
          clear hsc hst he hN hU
          by_cases hr1 : x < 2
          · clear hr
            go_wp2
            go_ret
            exact ⟨by rw [HE.out, HSC.out]; rfl, hx⟩
          · have hr2 : 24 ≤ x := by omega
            clear hr
            go_wp2
            go_ret
            exact ⟨by rw [HE.out, HSC.out]; rfl, hx⟩
        · rw [if_neg hr] at hsc
          obtain ⟨n, rfl⟩ : ∃ n : Nat, x = (n : Int) := ⟨x.toNat, by omega⟩
          have hn24 : n < 24 := by omega
          have hr1 : ¬ (n : Int) < 2 := by omega
          have hr2 : ¬ (24 : Int) ≤ (n : Int) := by omega
          have hr3 : (n : Int) < 24 := by omega
          have hu : wr.cell? ⟨w.heap.size + 1, n, none⟩ = some (.bool (decide ((n : Int) ∈ all.take k))) := by rw [hU.cell, usedC_get _ _ hn24]
          have huf := hU.free n
          have hul := hU.lt
          by_cases hin : (n : Int) ∈ all.take k
          · rw [if_pos hin] at hsc
            have HSC : Hid (scan [] all = 3) := hsc
            have hd : decide ((n : Int) ∈ all.take k) = true := by simpa using hin
            rw [hd] at hu
            clear hsc hst he hN hU hin hd hr
            go_wp2
            go_ret
            exact ⟨by rw [HE.out, HSC.out]; rfl, hx⟩
          · rw [if_neg hin] at hsc
            have hd : decide ((n : Int) ∈ all.take k) = false := by simpa using hin
            rw [hd] at hu
            have HSC : Hid (scan [] all = scan (all.take (k + 1)) (all.drop (k + 1))) := hsc
            have hU2 : Hid (Blk (wr.setCell ⟨w.heap.size + 1, n, none⟩ (.bool true)) (w.heap.size + 1) (usedC (all.take (k + 1))) 58) := by
              have := hU.set n (.bool true)
              rw [usedC_set] at this
              have e : all.take (k + 1) = all.take k ++ [(n : Int)] := by rw [List.take_add_one, he]; rfl
              rw [Hid, e]; exact this
            have hN2 : Hid (NumsAt (wr.setCell ⟨w.heap.size + 1, n, none⟩ (.bool true)) (some ⟨b', off', none⟩) all) := hN.set hbn _ _
            have hx2 : Hid (Ext w (wr.setCell ⟨w.heap.size + 1, n, none⟩ (.bool true))) := hx.set (by simp) _
            clear hsc hst he hN hU hin hd hr hx
            go_wp2
            go_roundw
            case rel => exact ⟨k + 1, by omega, by go_num, HSC.out, hU2.out, hN2.out, hx2.out⟩
            case measure => simp [intOf]; omega
      · have HSC : Hid (scan [] all = 0) := by rw [Hid, hsc, List.drop_of_length_le (by omega)]; rfl
        have hkI : ¬ ((k : Int) < (nw.length : Int) + (od.length : Int) + 1) := by have := HLN.out; omega
        clear hN hU hsc
        go_wp2
        go_ret
        exact ⟨by rw [HE.out, HSC.out]; rfl, hx⟩
end Go.Proofs.Ytpldeejagomfjaa
