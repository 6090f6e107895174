/- MrgA MrgB. -/
import Derived.Test.YtkibgflbidkalaaGreatDoorEntAppJ
import Derived.Test.YtkibgflbidkalaaGreatDoorLstMJ
import Derived.Deep.RegionHeld3

/- Two lists are put together. -/
namespace Go.Proofs.YtkibgflbidkalaaGreatDoor
open Go.RowKit

def tl3 (ao : Option Addr) (cap : Nat) : Option Addr := if cap = 1 then ao else ao.map (·.add 3)
theorem run_tl (W : World) (ao : Option Addr) (n cap : Nat) : (Instr.slice 31 (.slice ao (n + 1) cap) (some (.int .i64 1)) none none).run Tryz.prog W = .ok (.slice (tl3 ao cap) n (cap - 1)) W := by
  have hu : Tryz.prog.underlying 31 = some (.slice (Tryz.prog.elem 31)) := by kernel_rfl
  have hz : (sizeOf (Tryz.prog.elem 31)).run Tryz.prog W = .ok 3 W := by kernel_rfl
  rw [run_slice_l W 31 ao (n + 1) cap hu .i64 1 (by omega) (by omega), hz]
  simp [Result.andThen, sliced, tl3]
theorem EntsAt.tl {w : World} {ao : Option Addr} {x : Ent} {r : List Ent} {cap : Nat} (h : EntsAt w ao (x :: r)) (hc : r.length + 1 ≤ cap) : EntsAt w (tl3 ao cap) r := by
  intro hne
  obtain ⟨b, off, rfl, hh⟩ := h (by simp)
  have h1 : ¬ cap = 1 := by
    intro e; subst e
    exact hne (List.eq_nil_of_length_eq_zero (by omega))
  refine ⟨b, off + 3, by simp [tl3, h1, Addr.add], fun i e he => ?_⟩
  have := hh (i + 1) e (by simpa using he)
  rw [show off + (i + 1) * 3 = off + 3 + i * 3 by omega] at this
  exact this
def lenV : Value → Nat
  | .slice _ n _ => n
  | _ => 0
structure TwoG (xs ys xs' ys' done : List Ent) : Prop where
  eq : twoE xs ys = done ++ twoE xs' ys'
  len : done.length + xs'.length + ys'.length ≤ xs.length + ys.length
theorem TwoG.b {xs ys xs' ys' done : List Ent} {x y : Ent} (h : TwoG xs ys (x :: xs') (y :: ys') done) (hlt : Lt y.key x.key) : TwoG xs ys (x :: xs') ys' (done ++ [y]) := by
  refine ⟨?_, ?_⟩
  · rw [h.eq, twoE, if_pos hlt]; simp
  · have := h.len; simp at *; omega
structure DropG (k : ByteArray) (ys ys' : List Ent) : Prop where
  eq : ys'.dropWhile (fun e => decide (e.key = k)) = ys.dropWhile (fun e => decide (e.key = k))
  len : ys'.length ≤ ys.length
theorem DropG.step {k : ByteArray} {ys r : List Ent} {y : Ent} (h : DropG k ys (y :: r)) (hy : y.key = k) : DropG k ys r := by
  refine ⟨?_, ?_⟩
  · rw [← h.eq, List.dropWhile_cons, if_pos (by simpa using hy)]
  · have := h.len; simp at *; omega
theorem TwoG.a {xs ys xs' ys' ys'' done : List Ent} {x y : Ent} (h : TwoG xs ys (x :: xs') (y :: ys') done) (hlt : ¬ Lt y.key x.key) (hd : DropG x.key (y :: ys') ys'') (hs : ∀ z r, ys'' = z :: r → z.key ≠ x.key) : TwoG xs ys xs' ys'' (done ++ [x]) := by
  have e : (y :: ys').dropWhile (fun e => decide (e.key = x.key)) = ys'' := by
    rw [← hd.eq]
    cases ys'' with
    | nil => rfl
    | cons z r => rw [List.dropWhile_cons, if_neg (by simpa using hs z r rfl)]
  refine ⟨?_, ?_⟩
  · rw [h.eq, twoE, if_neg hlt, e]; simp
  · have := h.len; have := hd.len; simp at *; omega
theorem TwoG.done {xs ys xs' ys' done : List Ent} (h : TwoG xs ys xs' ys' done) (hn : xs' = [] ∨ ys' = []) : twoE xs ys = done ++ xs' ++ ys' := by
  rw [h.eq]
  rcases hn with rfl | rfl
  · rw [nil_two]; simp
  · rw [two_nil]; simp

set_option maxRecDepth 20000 in
set_option maxHeartbeats 4000000 in
theorem two_any (ao bo : Option Addr) (ca cb : Nat) (xs ys : List Ent) (w : World) (ha : xs.length ≤ 1000) (hb : ys.length ≤ 1000) (hca : xs.length ≤ ca) (hcb : ys.length ≤ cb) (hA : EntsAt w ao xs) (hB : EntsAt w bo ys) :
    Calls Tryz.prog 146 #[.slice ao xs.length ca, .slice bo ys.length cb] w fun e w' => ∃ v, e = .returned v ∧ Lst w w' v (twoE xs ys) := by
  obtain ⟨i0, hi, hz0, hz1, hz2⟩ := info_parts Tryz.info56
  go_enter Tryz.func146, Tryz.ntmps146
  go_wp2_with (at_make; refine wpList_make_own _ rfl _ _ 31 rfl w.heap.size 56 i0 (.agg #[.string ⟨#[]⟩, .string ⟨#[]⟩, .bool false]) 3 Tryz.underlying31 hi hz0 hz1 _ _ _ (xs.length + ys.length) rfl rfl (by omega) ?b2 ?b3 (Nat.le_refl _) ?_)
  case b2 => rw [hz2]; omega
  case b3 => unfold maxLen; omega
  intro w1 hown hgrow
  have hL1 : Lst w w1 (.slice (some ⟨w.heap.size, 0, none⟩) 0 (xs.length + ys.length)) [] := ⟨hown, (Ext.refl w).grown hgrow (by intro k h; cases h)⟩
  clear hown hgrow hi hz0 hz1 hz2
  go_wp2_with fail
  go_loopw [0, 1, 5] (fun a b v wr => ∃ (xs' ys' done : List Ent) (ao' bo' : Option Addr) (ca' cb' : Nat), a = .slice ao' xs'.length ca' ∧ b = .slice bo' ys'.length cb' ∧ xs'.length ≤ ca' ∧ ys'.length ≤ cb' ∧ EntsAt w ao' xs' ∧ EntsAt w bo' ys' ∧ Lst w wr v done ∧ TwoG xs ys xs' ys' done) (fun a b _ _ => lenV a + lenV b)
  case atStart => exact ⟨xs, ys, [], ao, bo, ca, cb, rfl, rfl, hca, hcb, hA, hB, hL1, ⟨by simp, by simp⟩⟩
  case round =>
    clear hA hB hL1 hca hcb
    obtain ⟨xs', ys', done, ao', bo', ca', cb', rfl, rfl, hca, hcb, hA, hB, hL, hG⟩ := hrel
    have hlen := hG.len
    cases xs' with
    | nil =>
      have HE : Hid (twoE xs ys = done ++ [] ++ ys') := hG.done (.inl rfl)
      clear hG
      simp only [List.length_nil] at *
      go_wp2_with (at_builtin; refine wpList_app_ents rfl (.tmp 61) (.tmp 62) rfl w _ done rfl hL ao' ca' [] rfl ?c1 ?c2 ?_)
      case c1 => exact hA.ext hL.ext
      case c2 => ((try simp); omega)
      intro v2 w2 hL2
      go_wp2_with (at_builtin; refine wpList_app_ents rfl (.tmp 63) (.tmp 64) rfl w _ _ rfl hL2 bo' cb' ys' rfl ?d1 ?d2 ?_)
      case d1 => exact hB.ext hL2.ext
      case d2 => ((try simp); omega)
      intro v3 w3 hL3
      clear hL hL2 hA hB
      go_wp2
      go_ret
      refine ⟨v3, rfl, ?_⟩
      rw [HE.out]; simpa using hL3
    | cons x xs' =>
      cases ys' with
      | nil =>
        have HE : Hid (twoE xs ys = done ++ (x :: xs') ++ []) := hG.done (.inr rfl)
        clear hG
        have hp1 : (0 : Int) < (xs'.length : Int) + 1 := by omega
        simp only [List.length_cons] at *
        go_wp2_with (at_builtin; refine wpList_app_ents rfl (.tmp 61) (.tmp 62) rfl w _ done rfl hL ao' ca' (x :: xs') rfl ?c1 ?c2 ?_)
        case c1 => exact hA.ext hL.ext
        case c2 => ((try simp); omega)
        intro v2 w2 hL2
        go_wp2_with (at_builtin; refine wpList_app_ents rfl (.tmp 63) (.tmp 64) rfl w _ _ rfl hL2 bo' cb' [] rfl ?d1 ?d2 ?_)
        case d1 => exact hB.ext hL2.ext
        case d2 => ((try simp); omega)
        intro v3 w3 hL3
        clear hL hL2 hA hB
        go_wp2
        go_ret
        refine ⟨v3, rfl, ?_⟩
        rw [HE.out]; simpa using hL3
      | cons y ys' =>
        obtain ⟨b, off, kx, vx, gx, rfl, he, h1, h2, h3⟩ := hA.get (k := 0) (by simp)
        obtain ⟨b', off', ky, vy, gy, rfl, hf, g1, g2, g3⟩ := hB.get (k := 0) (by simp)
        obtain rfl : x = ⟨kx, vx, gx⟩ := by simpa using he
        obtain rfl : y = ⟨ky, vy, gy⟩ := by simpa using hf
        simp only [Nat.zero_mul, Nat.add_zero] at h1 h2 h3 g1 g2 g3
        have hA2 := hA.tl (cap := ca') (by simpa using hca)
        have hB2 := hB.tl (cap := cb') (by simpa using hcb)
        have HA : Hid (EntsAt w (some ⟨b, off, none⟩) (⟨kx, vx, gx⟩ :: xs')) := hA
        have HB : Hid (EntsAt w (some ⟨b', off', none⟩) (⟨ky, vy, gy⟩ :: ys')) := hB
        have k1 := hL.ext.cell h1
        have k2 := hL.ext.cell h2
        have k3 := hL.ext.cell h3
        have l1 := hL.ext.cell g1
        have l2 := hL.ext.cell g2
        have l3 := hL.ext.cell g3
        have s1 := fun W => run_tl W (some ⟨b, off, none⟩) xs'.length ca'
        have s2 := fun W => run_tl W (some ⟨b', off', none⟩) ys'.length cb'
        have hp1 : (0 : Int) < (xs'.length : Int) + 1 := by omega
        have hp2 : (0 : Int) < (ys'.length : Int) + 1 := by omega
        clear he hf hA hB
        simp only [List.length_cons] at *
        by_cases hc : Lt ky kx
        · have hG2 := hG.b hc
          have hle : Op.bytesLess ky.toList kx.toList = true := hc
          clear hG hc
          go_wp2_with fail
          go_quiet (fail)
          go_wp2_with fail
          go_region_held3 (fun w' => w'.cell? ⟨b', off', none⟩ = some (.string ky) ∧ w'.cell? ⟨b', off' + 1, none⟩ = some (.string vy) ∧ w'.cell? ⟨b', off' + 2, none⟩ = some (.bool gy)) (first | (exact ⟨hL3.ext.cell g1, hL3.ext.cell g2, hL3.ext.cell g3⟩) | go_keep)
            (first | (refine step_app_ent (by rfl) _ _ (by rfl) w _ done (by rfl) (by repeat (first | exact hL | refine Lst.drew ?_ | refine Lst.drewN ?_ _ | refine Lst.alloc ?_ _)) wr.heap.size ky vy gy (by rfl) (by repeat (first | exact Blk.new' _ _ _ (by simp) | refine Blk.drew ?_ | refine Blk.drewN ?_ _)) (by omega) ?_; intro gg cap2 w3 hL3))
          go_wp2
          go_roundw
          case rel => exact ⟨⟨kx, vx, gx⟩ :: xs', ys', _, _, _, ca', cb' - 1, rfl, rfl, by simpa using hca, by omega, HA.out, hB2, hL3, hG2⟩
          case measure => simp [lenV]
        · have hle : Op.bytesLess ky.toList kx.toList = false := Lt.nless hc
          have HC : Hid (¬ Lt ky kx) := hc
          clear hc hB2 s2 hp2 g1 g2 g3 l2 l3
          go_wp2_with fail
          go_quiet (fail)
          go_wp2_with fail
          clear l1 hle
          obtain ⟨wo, hwo⟩ : ∃ wo : World, wo = wr.drewN nq := ⟨_, rfl⟩
          have hLo : Lst w wo u5 done := by rw [hwo]; exact hL.drewN nq
          have HY : Hid (DropG kx (⟨ky, vy, gy⟩ :: ys') (⟨ky, vy, gy⟩ :: ys')) := ⟨rfl, Nat.le_refl _⟩
          rw [← hwo]
          clear hwo hL k1 k2 k3
          go_loopw [1] (fun b wi => ∃ (zs : List Ent) (zo : Option Addr) (cz : Nat), b = .slice zo zs.length cz ∧ zs.length ≤ cz ∧ EntsAt w zo zs ∧ DropG kx (⟨ky, vy, gy⟩ :: ys') zs ∧ Lst w wi u5 done) (fun b _ => lenV b)
          case atStart => exact ⟨⟨ky, vy, gy⟩ :: ys', _, cb', rfl, by simpa using hcb, HB.out, HY.out, hLo⟩
          case round =>
            clear hLo HY HB
            obtain ⟨zs, zo, cz, rfl, hcz, hZ, hD, hLi⟩ := hrel
            have hdl := hD.len
            have k1 := hLi.ext.cell h1
            have k2 := hLi.ext.cell h2
            have k3 := hLi.ext.cell h3
            cases zs with
            | nil =>
              have hG2 := hG.a HC.out hD (by intro z r e; cases e)
              clear hG hD
              simp only [List.length_nil] at *
              go_wp2_with fail
              go_quiet (fail)
              go_wp2_with fail
              go_region_held3 (fun w' => w'.cell? ⟨b, off, none⟩ = some (.string kx) ∧ w'.cell? ⟨b, off + 1, none⟩ = some (.string vx) ∧ w'.cell? ⟨b, off + 2, none⟩ = some (.bool gx)) (first | (exact ⟨hL3.ext.cell h1, hL3.ext.cell h2, hL3.ext.cell h3⟩) | go_keep)
                (first | (refine step_app_ent (by rfl) _ _ (by rfl) w _ done (by rfl) (by repeat (first | exact hLi | refine Lst.drew ?_ | refine Lst.drewN ?_ _ | refine Lst.alloc ?_ _)) wr.heap.size kx vx gx (by rfl) (by repeat (first | exact Blk.new' _ _ _ (by simp) | refine Blk.drew ?_ | refine Blk.drewN ?_ _)) (by omega) ?_; intro gg cap2 w3 hL3))
              go_wp2
              go_roundw
              case rel => exact ⟨xs', [], _, _, zo, ca' - 1, cz, rfl, rfl, by omega, hcz, hA2, hZ, hL3, hG2⟩
              case measure => simp [lenV] at *; omega
            | cons z r =>
              obtain ⟨b2, off2, kz, vz, gz, rfl, hf, m1, m2, m3⟩ := hZ.get (k := 0) (by simp)
              obtain rfl : z = ⟨kz, vz, gz⟩ := by simpa using hf
              simp only [Nat.zero_mul, Nat.add_zero] at m1
              have n1 := hLi.ext.cell m1
              have hp2 : (0 : Int) < (r.length : Int) + 1 := by omega
              clear hf m1 m2 m3
              by_cases hz : kz = kx
              · subst hz
                have hD2 := hD.step rfl
                have hZ2 := hZ.tl (cap := cz) (by simpa using hcz)
                have s2 := fun W => run_tl W (some ⟨b2, off2, none⟩) r.length cz
                clear hD hZ
                simp only [List.length_cons] at *
                go_wp2_with fail
                go_quiet (fail)
                go_wp2
                go_roundw
                case rel => exact ⟨r, _, cz - 1, rfl, by omega, hZ2, hD2, hLi.drewN _⟩
                case measure => simp [lenV]
              · have hbe : (kz.toList == kx.toList) = false := beq_ne hz
                have hG2 := hG.a HC.out hD (by intro z' r' e; simp at e; rw [← e.1]; exact hz)
                obtain ⟨zo, hzo⟩ : ∃ zo : Option Addr, zo = some ⟨b2, off2, none⟩ := ⟨_, rfl⟩
                clear hG hD hz
                simp only [List.length_cons] at *
                go_wp2_with fail
                go_quiet (fail)
                go_wp2_with fail
                go_region_held3 (fun w' => w'.cell? ⟨b, off, none⟩ = some (.string kx) ∧ w'.cell? ⟨b, off + 1, none⟩ = some (.string vx) ∧ w'.cell? ⟨b, off + 2, none⟩ = some (.bool gx)) (first | (exact ⟨hL3.ext.cell h1, hL3.ext.cell h2, hL3.ext.cell h3⟩) | go_keep)
                  (first | (refine step_app_ent (by rfl) _ _ (by rfl) w _ done (by rfl) (by repeat (first | exact hLi | refine Lst.drew ?_ | refine Lst.drewN ?_ _ | refine Lst.alloc ?_ _)) wr.heap.size kx vx gx (by rfl) (by repeat (first | exact Blk.new' _ _ _ (by simp) | refine Blk.drew ?_ | refine Blk.drewN ?_ _)) (by omega) ?_; intro gg cap2 w3 hL3))
                go_wp2
                go_roundw
                case rel => exact ⟨xs', (⟨kz, vz, gz⟩ :: r), _, _, _, ca' - 1, cz, rfl, rfl, by omega, by simpa using hcz, hA2, hZ, hL3, hG2⟩
                case measure => simp [lenV] at *; omega
end Go.Proofs.YtkibgflbidkalaaGreatDoor

/- All lists are put together. -/
namespace Go.Proofs.YtkibgflbidkalaaGreatDoor
open Go.RowKit

structure LE where
  es : List Ent
  ao : Option Addr
  cap : Nat
def ListsAt (w : World) (ao : Option Addr) (ls : List LE) : Prop :=
  ls ≠ [] → ∃ b off, ao = some ⟨b, off, none⟩ ∧ ∀ i l, ls[i]? = some l → w.cell? ⟨b, off + i, none⟩ = some (.slice l.ao l.es.length l.cap) ∧ l.es.length ≤ l.cap ∧ EntsAt w l.ao l.es
theorem ListsAt.get {w : World} {ao : Option Addr} {ls : List LE} (h : ListsAt w ao ls) {k : Nat} (hk : k < ls.length) :
    ∃ b off es eo ec, ao = some ⟨b, off, none⟩ ∧ ls[k]? = some ⟨es, eo, ec⟩ ∧ w.cell? ⟨b, off + k, none⟩ = some (.slice eo es.length ec) ∧ es.length ≤ ec ∧ EntsAt w eo es := by
  obtain ⟨b, off, rfl, hc⟩ := h (by intro e; subst e; simp at hk)
  have he : ls[k]? = some ls[k] := List.getElem?_eq_getElem hk
  exact ⟨b, off, ls[k].es, ls[k].ao, ls[k].cap, rfl, he, hc k _ he⟩
theorem ListsAt.ext {w w' : World} {ao : Option Addr} {ls : List LE} (h : ListsAt w ao ls) (hx : Ext w w') : ListsAt w' ao ls := by
  intro hne
  obtain ⟨b, off, rfl, hc⟩ := h hne
  exact ⟨b, off, rfl, fun i l hl => ⟨hx.cell (hc i l hl).1, (hc i l hl).2.1, (hc i l hl).2.2.ext hx⟩⟩
def hd1 (ao : Option Addr) (cap : Nat) : Option Addr := if cap = 0 then ao else ao.map (·.add 0)
def fr1 (ao : Option Addr) (cap h : Nat) : Option Addr := if cap = h then ao else ao.map (·.add h)
theorem run_hd (W : World) (ao : Option Addr) (n cap h : Nat) (hh : h ≤ cap) : (Instr.slice 152 (.slice ao n cap) none (some (.int .i64 (h : Int))) none).run Tryz.prog W = .ok (.slice (hd1 ao cap) h cap) W := by
  have hu : Tryz.prog.underlying 152 = some (.slice (Tryz.prog.elem 152)) := by kernel_rfl
  have hz : (sizeOf (Tryz.prog.elem 152)).run Tryz.prog W = .ok 1 W := by kernel_rfl
  rw [run_slice_h W 152 ao n cap hu .i64 (h : Int) (by omega) (by omega), hz]
  simp [Result.andThen, sliced, hd1]
theorem run_fr (W : World) (ao : Option Addr) (n cap h : Nat) (hh : h ≤ n) : (Instr.slice 152 (.slice ao n cap) (some (.int .i64 (h : Int))) none none).run Tryz.prog W = .ok (.slice (fr1 ao cap h) (n - h) (cap - h)) W := by
  have hu : Tryz.prog.underlying 152 = some (.slice (Tryz.prog.elem 152)) := by kernel_rfl
  have hz : (sizeOf (Tryz.prog.elem 152)).run Tryz.prog W = .ok 1 W := by kernel_rfl
  rw [run_slice_l W 152 ao n cap hu .i64 (h : Int) (by omega) (by omega), hz]
  simp [Result.andThen, sliced, fr1]
theorem ListsAt.hd {w : World} {ao : Option Addr} {ls : List LE} {cap h : Nat} (hl : ListsAt w ao ls) : ListsAt w (hd1 ao cap) (ls.take h) := by
  intro hne
  obtain ⟨b, off, rfl, hc⟩ := hl (by intro e; subst e; simp at hne)
  have e : hd1 (some ⟨b, off, none⟩) cap = some ⟨b, off, none⟩ := by
    unfold hd1; split
    · rfl
    · simp [Addr.add]
  refine ⟨b, off, e, fun i l hi => hc i l ?_⟩
  rw [List.getElem?_take] at hi
  split at hi
  · exact hi
  · simp at hi
theorem ListsAt.fr {w : World} {ao : Option Addr} {ls : List LE} {cap h : Nat} (hl : ListsAt w ao ls) (hcap : ls.length ≤ cap) : ListsAt w (fr1 ao cap h) (ls.drop h) := by
  intro hne
  obtain ⟨b, off, rfl, hc⟩ := hl (by intro e; subst e; simp at hne)
  have h1 : ¬ cap = h := by
    intro e; subst e
    exact hne (List.drop_of_length_le hcap)
  have e : fr1 (some ⟨b, off, none⟩) cap h = some ⟨b, off + h, none⟩ := by
    unfold fr1; rw [if_neg h1]
    simp only [Option.map_some, Option.some.injEq, Addr.add]
    by_cases h0 : h = 0 <;> simp [h0]
  refine ⟨b, off + h, e, fun i l hi => ?_⟩
  rw [List.getElem?_drop] at hi
  have := hc (h + i) l hi
  rwa [show off + (h + i) = off + h + i by omega] at this

def RetL (w w' : World) (e : Ending) (es : List Ent) : Prop := ∃ ao cap, e = .returned (.slice ao es.length cap) ∧ es.length ≤ cap ∧ EntsAt w' ao es ∧ Ext w w'
theorem Lst.ret {w w' : World} {v : Value} {es : List Ent} (h : Lst w w' v es) : RetL w w' (.returned v) es := by
  obtain ⟨ao, cap, hv, ha⟩ := h.at
  refine ⟨ao, cap, by rw [hv], ?_, ha, h.ext⟩
  rcases h.own.2 with ⟨h1, h2⟩ | ⟨g, cap2, cur, h1, _, _, h3, _⟩
  · omega
  · rw [hv] at h1; simp at h1; omega
theorem two_ret (ao bo : Option Addr) (ca cb : Nat) (xs ys : List Ent) (w : World) (ha : xs.length ≤ 1000) (hb : ys.length ≤ 1000) (hca : xs.length ≤ ca) (hcb : ys.length ≤ cb) (hA : EntsAt w ao xs) (hB : EntsAt w bo ys) :
    Calls Tryz.prog 146 #[.slice ao xs.length ca, .slice bo ys.length cb] w fun e w' => RetL w w' e (twoE xs ys) := by
  refine (two_any ao bo ca cb xs ys w ha hb hca hcb hA hB).mono ?_
  rintro e w' ⟨v, rfl, h⟩
  exact h.ret

structure Few (ls : List LE) : Prop where
  ris : ∀ l ∈ ls, Ris l.es
  len : ∀ l ∈ ls, l.es.length ≤ 40
theorem Few.sub {ls ms : List LE} (h : Few ls) (hs : ∀ l ∈ ms, l ∈ ls) : Few ms := ⟨fun l hl => h.ris l (hs l hl), fun l hl => h.len l (hs l hl)⟩
def alls (ls : List LE) : List Ent := allE (ls.map LE.es)
theorem putE_len (l : List Ent) (e : Ent) : (putE l e).length ≤ l.length + 1 := by
  induction l with
  | nil => simp [putE]
  | cons x r ih => unfold putE; split <;> (try split) <;> simp <;> omega
theorem puts_len (l es : List Ent) : (putsE l es).length ≤ l.length + es.length := by
  induction es generalizing l with
  | nil => simp [putsE]
  | cons x r ih =>
    have h1 := ih (putE l x)
    have h2 := putE_len l x
    show (putsE (putE l x) r).length ≤ _
    simp; omega
theorem alls_len {ls : List LE} (h : Few ls) : (alls ls).length ≤ 40 * ls.length := by
  induction ls with
  | nil => simp [alls, allE]
  | cons x r ih =>
    have h1 := ih (h.sub (by simp +contextual))
    have h2 := puts_len (alls r) x.es
    have h3 := h.len x (by simp)
    show (putsE (alls r) x.es).length ≤ _
    simp; omega
theorem alls_split {ls : List LE} (h : Few ls) (k : Nat) : alls ls = twoE (alls (ls.take k)) (alls (ls.drop k)) := by
  have := allE_app (a := (ls.take k).map LE.es) (b := (ls.drop k).map LE.es) (by
    intro l hl
    obtain ⟨x, hx, rfl⟩ := List.mem_map.1 hl
    exact h.ris x (List.mem_of_mem_take hx))
  unfold alls
  rw [← this, ← List.map_append, List.take_append_drop]
set_option maxRecDepth 20000 in
set_option maxHeartbeats 2000000 in
theorem all_any (n : Nat) : ∀ (ao : Option Addr) (cap : Nat) (ls : List LE) (w : World) (_ : ls.length ≤ n) (_ : ls.length ≤ 20) (_ : ls.length ≤ cap) (_ : Few ls) (_ : ListsAt w ao ls),
    Calls Tryz.prog 106 #[.slice ao ls.length cap] w fun e w' => RetL w w' e (alls ls) := by
  induction n with
  | zero =>
    intro ao cap ls w hn _ _ _ _
    have : ls = [] := List.eq_nil_of_length_eq_zero (by omega)
    subst this
    go_enter Tryz.func106, Tryz.ntmps106
    go_wp2
    go_ret
    exact ⟨none, 0, rfl, by simp [alls, allE], fun h => absurd rfl h, Ext.refl _⟩
  | succ n ih =>
    intro ao cap ls w hn h20 hcap hF hA
    rcases (show ls.length = 0 ∨ ls.length = 1 ∨ 2 ≤ ls.length by omega) with h0 | h0 | h0
    · have : ls = [] := List.eq_nil_of_length_eq_zero h0
      subst this
      go_enter Tryz.func106, Tryz.ntmps106
      go_wp2
      go_ret
      exact ⟨none, 0, rfl, by simp [alls, allE], fun h => absurd rfl h, Ext.refl _⟩
    · obtain ⟨b, off, es, eo, ec, rfl, he, h1, h2, h3⟩ := hA.get (k := 0) (by omega)
      obtain ⟨l, rfl⟩ := List.length_eq_one_iff.1 h0
      obtain rfl : l = ⟨es, eo, ec⟩ := by simpa using he
      have hl := hF.len ⟨es, eo, ec⟩ (by simp)
      have hr := hF.ris ⟨es, eo, ec⟩ (by simp)
      dsimp only at hl hr
      have CT : Hid (Calls Tryz.prog 146 #[.slice eo es.length ec, .slice none 0 0] w fun e w' => RetL w w' e es) := by
        have := two_ret eo none ec 0 es [] w (by omega) (by simp) h2 (by simp) h3 (fun h => absurd rfl h)
        rw [two_nil] at this
        exact this
      have HE : Hid (alls [⟨es, eo, ec⟩] = es) := allE_one hr
      simp only [Nat.add_zero] at h1
      clear he hA hF hr h3 ih
      simp only [List.length_cons, List.length_nil] at *
      go_enter Tryz.func106, Tryz.ntmps106
      go_wp2_with (go_at_call 146; refine CT.out.mono ?_; rintro e w' ⟨ao2, cap2, rfl, hc2, ha2, hx2⟩)
      go_ret
      exact ⟨ao2, cap2, by rw [HE.out]; rfl, by rw [HE.out]; exact hc2, by rw [HE.out]; exact ha2, hx2⟩
    · obtain ⟨h, hh⟩ : ∃ h : Nat, h = ls.length / 2 := ⟨_, rfl⟩
      have r1 := fun W => run_hd W ao ls.length cap h (by omega)
      have r2 := fun W => run_fr W ao ls.length cap h (by omega)
      have hq : ((ls.length : Nat) : Int).tdiv 2 = (h : Int) := by rw [Int.tdiv_eq_ediv_of_nonneg (Int.natCast_nonneg _), hh]; omega
      have hwr : wrap64 (h : Int) = (h : Int) := by unfold wrap64; omega
      have n1 : ((ls.length : Int) == 0) = false := by rw [beq_eq_false_iff_ne]; omega
      have n2 : ((ls.length : Int) == 1) = false := by rw [beq_eq_false_iff_ne]; omega
      have CA : Hid (∀ W, Ext w W → Calls Tryz.prog 106 #[.slice (hd1 ao cap) h cap] W fun e w' => RetL W w' e (alls (ls.take h))) := fun W hx => by
        have := ih (hd1 ao cap) cap (ls.take h) W (by simp; omega) (by simp; omega) (by simp; omega) (hF.sub fun l hl => List.mem_of_mem_take hl) (hA.hd.ext hx)
        rwa [show (ls.take h).length = h by simp; omega] at this
      have CB : Hid (∀ W, Ext w W → Calls Tryz.prog 106 #[.slice (fr1 ao cap h) (ls.length - h) (cap - h)] W fun e w' => RetL W w' e (alls (ls.drop h))) := fun W hx => by
        have := ih (fr1 ao cap h) (cap - h) (ls.drop h) W (by simp; omega) (by simp; omega) (by simp; omega) (hF.sub fun l hl => List.mem_of_mem_drop hl) ((hA.fr hcap).ext hx)
        rwa [show (ls.drop h).length = ls.length - h by simp] at this
      have la := alls_len (hF.sub (ms := ls.take h) fun l hl => List.mem_of_mem_take hl)
      have lb := alls_len (hF.sub (ms := ls.drop h) fun l hl => List.mem_of_mem_drop hl)
      have HE : Hid (alls ls = twoE (alls (ls.take h)) (alls (ls.drop h))) := alls_split hF h
      have la' : (alls (ls.take h)).length ≤ 1000 := by simp at la; omega
      have lb' : (alls (ls.drop h)).length ≤ 1000 := by simp at lb; omega
      clear ih hF hA la lb hh
      generalize alls (ls.take h) = xs at *
      generalize alls (ls.drop h) = ys at *
      go_enter Tryz.func106, Tryz.ntmps106
      go_wp2_with fail
      go_region_held3 (fun _ => True) (trivial)
        (first
          | (go_at_call_of 106 (Value.slice (hd1 ao cap) h cap); refine (CA.out _ (by repeat (first | exact Ext.refl _ | refine Ext.drew ?_ | refine Ext.drewN ?_ _))).mono ?_; rintro e w2 ⟨ao2, cap2, rfl, hc2, ha2, hx2⟩)
          | (go_at_call_of 106 (Value.slice (fr1 ao cap h) (ls.length - h) (cap - h)); refine (CB.out _ (by repeat (first | exact Ext.refl _ | refine Ext.drew ?_ | refine Ext.drewN ?_ _ | refine Ext.trans ?_ hx2))).mono ?_; rintro e w3 ⟨ao3, cap3, rfl, hc3, ha3, hx3⟩)
          | (go_at_call 146; refine (two_ret ao2 ao3 cap2 cap3 xs ys _ la' lb' hc2 hc3 (ha2.ext hx3) ha3).mono ?_; rintro e w4 ⟨ao4, cap4, rfl, hc4, ha4, hx4⟩))
      go_wp2
      go_ret
      have hE := HE.out
      exact ⟨ao4, cap4, by rw [hE]; rfl, by rw [hE]; exact hc4, by rw [hE]; exact ha4, ((Ext.refl w).drew.trans hx2).trans (hx3.trans hx4)⟩
end Go.Proofs.YtkibgflbidkalaaGreatDoor
