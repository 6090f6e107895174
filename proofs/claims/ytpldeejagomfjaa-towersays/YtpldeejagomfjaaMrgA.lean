
/- Two lists are put together. -/
import Derived.Test.YtpldeejagomfjaaEntApp
import Derived.Test.YtpldeejagomfjaaLstM
import Derived.Deep.RegionHeld3
namespace Go.Proofs.Ytpldeejagomfjaa
open Go.RowKit

/-- What l[1:] leads to. -/
def tl3 (ao : Option Addr) (cap : Nat) : Option Addr := if cap = 1 then ao else ao.map (·.add 3)
theorem run_tl (W : World) (ao : Option Addr) (n cap : Nat) : (Instr.slice 22 (.slice ao (n + 1) cap) (some (.int .i64 1)) none none).run Try.prog W = .ok (.slice (tl3 ao cap) n (cap - 1)) W := by
  have hu : Try.prog.underlying 22 = some (.slice (Try.prog.elem 22)) := by kernel_rfl
  have hz : (sizeOf (Try.prog.elem 22)).run Try.prog W = .ok 3 W := by kernel_rfl
  rw [run_slice_l W 22 ao (n + 1) cap hu .i64 1 (by omega) (by omega), hz]
  simp [Result.andThen, sliced, tl3]
theorem EntsAt.tl {w : World} {ao : Option Addr} {x : Ent} {r : List Ent} {cap : Nat} (h : EntsAt w ao (x :: r)) (hc : r.length + 1 ≤ cap) : EntsAt w (tl3 ao cap) r := by
  intro hne
  obtain ⟨b, off, rfl, hh⟩ := h (by simp)
  have h1 : ¬ cap = 1 := by
    intro e; subst e
    exact hne (List.eq_nil_of_length_eq_zero (by omega))
  refine ⟨b, off + 3, by simp [tl3, h1, Addr.add], fun i e he => ?_⟩
  have := hh (i + 1) e (by simpa using he)
  rw [show off + (i + 1) * 3 = off + 3 + i * 3 by omega] at this
  exact this
def lenV : Value → Nat
  | .slice _ n _ => n
  | _ => 0
/-- On the way: what is done, what is left. -/
structure TwoG (xs ys xs' ys' done : List Ent) : Prop where
  eq : twoE xs ys = done ++ twoE xs' ys'
  len : done.length + xs'.length + ys'.length ≤ xs.length + ys.length
theorem TwoG.b {xs ys xs' ys' done : List Ent} {x y : Ent} (h : TwoG xs ys (x :: xs') (y :: ys') done) (hlt : Lt y.key x.key) : TwoG xs ys (x :: xs') ys' (done ++ [y]) := by
  refine ⟨?_, ?_⟩
  · rw [h.eq, twoE, if_pos hlt]; simp
  · have := h.len; simp at *; omega
/-- Behind some rounds of the inner loop. -/
structure DropG (k : ByteArray) (ys ys' : List Ent) : Prop where
  eq : ys'.dropWhile (fun e => decide (e.key = k)) = ys.dropWhile (fun e => decide (e.key = k))
  len : ys'.length ≤ ys.length
theorem DropG.step {k : ByteArray} {ys r : List Ent} {y : Ent} (h : DropG k ys (y :: r)) (hy : y.key = k) : DropG k ys r := by
  refine ⟨?_, ?_⟩
  · rw [← h.eq, List.dropWhile_cons, if_pos (by simpa using hy)]
  · have := h.len; simp at *; omega
theorem TwoG.a {xs ys xs' ys' ys'' done : List Ent} {x y : Ent} (h : TwoG xs ys (x :: xs') (y :: ys') done) (hlt : ¬ Lt y.key x.key) (hd : DropG x.key (y :: ys') ys'') (hs : ∀ z r, ys'' = z :: r → z.key ≠ x.key) : TwoG xs ys xs' ys'' (done ++ [x]) := by
  have e : (y :: ys').dropWhile (fun e => decide (e.key = x.key)) = ys'' := by
    rw [← hd.eq]
    cases ys'' with
    | nil => rfl
    | cons z r => rw [List.dropWhile_cons, if_neg (by simpa using hs z r rfl)]
  refine ⟨?_, ?_⟩
  · rw [h.eq, twoE, if_neg hlt, e]; simp
  · have := h.len; have := hd.len; simp at *; omega
theorem TwoG.done {xs ys xs' ys' done : List Ent} (h : TwoG xs ys xs' ys' done) (hn : xs' = [] ∨ ys' = []) : twoE xs ys = done ++ xs' ++ ys' := by
  rw [h.eq]
  rcases hn with rfl | rfl
  · rw [nil_two]; simp
  · rw [two_nil]; simp

set_option maxRecDepth 20000 in
set_option maxHeartbeats 4000000 in
theorem two_any (ao bo : Option Addr) (ca cb : Nat) (xs ys : List Ent) (w : World) (ha : xs.length ≤ 1000) (hb : ys.length ≤ 1000) (hca : xs.length ≤ ca) (hcb : ys.length ≤ cb) (hA : EntsAt w ao xs) (hB : EntsAt w bo ys) :
    Calls Try.prog 62 #[.slice ao xs.length ca, .slice bo ys.length cb] w fun e w' => ∃ v, e = .returned v ∧ Lst w w' v (twoE xs ys) := by
  obtain ⟨i0, hi, hz0, hz1, hz2⟩ := info_parts Try.info30
  go_enter Try.func62, Try.ntmps62
  go_wp2_with (at_make; refine wpList_make_own _ rfl _ _ 22 rfl w.heap.size 30 i0 (.agg #[.string ⟨#[]⟩, .string ⟨#[]⟩, .bool false]) 3 Try.underlying22 hi hz0 hz1 _ _ _ (xs.length + ys.length) rfl rfl (by omega) ?b2 ?b3 (Nat.le_refl _) ?_)
  case b2 => rw [hz2]; omega
  case b3 => unfold maxLen; omega
  intro w1 hown hgrow
  have hL1 : Lst w w1 (.slice (some ⟨w.heap.size, 0, none⟩) 0 (xs.length + ys.length)) [] := ⟨hown, (Ext.refl w).grown hgrow (by intro k h; cases h)⟩
  clear hown hgrow hi hz0 hz1 hz2
  go_wp2_with fail
  go_loopw [0, 1, 5] (fun a b v wr => ∃ (xs' ys' done : List Ent) (ao' bo' : Option Addr) (ca' cb' : Nat), a = .slice ao' xs'.length ca' ∧ b = .slice bo' ys'.length cb' ∧ xs'.length ≤ ca' ∧ ys'.length ≤ cb' ∧ EntsAt w ao' xs' ∧ EntsAt w bo' ys' ∧ Lst w wr v done ∧ TwoG xs ys xs' ys' done) (fun a b _ _ => lenV a + lenV b)
  case atStart => exact ⟨xs, ys, [], ao, bo, ca, cb, rfl, rfl, hca, hcb, hA, hB, hL1, ⟨by simp, by simp⟩⟩
  case round =>
    clear hA hB hL1 hca hcb
    obtain ⟨xs', ys', done, ao', bo', ca', cb', rfl, rfl, hca, hcb, hA, hB, hL, hG⟩ := hrel
    have hlen := hG.len
    cases xs' with
    | nil =>
      have HE : Hid (twoE xs ys = done ++ [] ++ ys') := hG.done (.inl rfl)
      clear hG
      simp only [List.length_nil] at *
      go_wp2_with (at_builtin; refine wpList_app_ents rfl (.tmp 61) (.tmp 62) rfl w _ done rfl hL ao' ca' [] rfl ?c1 ?c2 ?_)
      case c1 => exact hA.ext hL.ext
      case c2 => ((try simp); omega)
      intro v2 w2 hL2
      go_wp2_with (at_builtin; refine wpList_app_ents rfl (.tmp 63) (.tmp 64) rfl w _ _ rfl hL2 bo' cb' ys' rfl ?d1 ?d2 ?_)
      case d1 => exact hB.ext hL2.ext
      case d2 => ((try simp); omega)
      intro v3 w3 hL3
      clear hL hL2 hA hB
      go_wp2
      go_ret
      refine ⟨v3, rfl, ?_⟩
      rw [HE.out]; simpa using hL3
    | cons x xs' =>
      cases ys' with
      | nil =>
        have HE : Hid (twoE xs ys = done ++ (x :: xs') ++ []) := hG.done (.inr rfl)
        clear hG
        have hp1 : (0 : Int) < (xs'.length : Int) + 1 := by omega
        simp only [List.length_cons] at *
        go_wp2_with (at_builtin; refine wpList_app_ents rfl (.tmp 61) (.tmp 62) rfl w _ done rfl hL ao' ca' (x :: xs') rfl ?c1 ?c2 ?_)
        case c1 => exact hA.ext hL.ext
        case c2 => ((try simp); omega)
        intro v2 w2 hL2
        go_wp2_with (at_builtin; refine wpList_app_ents rfl (.tmp 63) (.tmp 64) rfl w _ _ rfl hL2 bo' cb' [] rfl ?d1 ?d2 ?_)
        case d1 => exact hB.ext hL2.ext
        case d2 => ((try simp); omega)
        intro v3 w3 hL3
        clear hL hL2 hA hB
        go_wp2
        go_ret
        refine ⟨v3, rfl, ?_⟩
        rw [HE.out]; simpa using hL3
      | cons y ys' =>
        obtain ⟨b, off, kx, vx, gx, rfl, he, h1, h2, h3⟩ := hA.get (k := 0) (by simp)
        obtain ⟨b', off', ky, vy, gy, rfl, hf, g1, g2, g3⟩ := hB.get (k := 0) (by simp)
        obtain rfl : x = ⟨kx, vx, gx⟩ := by simpa using he
        obtain rfl : y = ⟨ky, vy, gy⟩ := by simpa using hf
        simp only [Nat.zero_mul, Nat.add_zero] at h1 h2 h3 g1 g2 g3
        have hA2 := hA.tl (cap := ca') (by simpa using hca)
        have hB2 := hB.tl (cap := cb') (by simpa using hcb)
        have HA : Hid (EntsAt w (some ⟨b, off, none⟩) (⟨kx, vx, gx⟩ :: xs')) := hA
        have HB : Hid (EntsAt w (some ⟨b', off', none⟩) (⟨ky, vy, gy⟩ :: ys')) := hB
        have k1 := hL.ext.cell h1
        have k2 := hL.ext.cell h2
        have k3 := hL.ext.cell h3
        have l1 := hL.ext.cell g1
        have l2 := hL.ext.cell g2
        have l3 := hL.ext.cell g3
        have s1 := fun W => run_tl W (some ⟨b, off, none⟩) xs'.length ca'
        have s2 := fun W => run_tl W (some ⟨b', off', none⟩) ys'.length cb'
        have hp1 : (0 : Int) < (xs'.length : Int) + 1 := by omega
        have hp2 : (0 : Int) < (ys'.length : Int) + 1 := by omega
        clear he hf hA hB
        simp only [List.length_cons] at *
        by_cases hc : Lt ky kx
        · have hG2 := hG.b hc
          have hle : Op.bytesLess ky.toList kx.toList = true := hc
          clear hG hc
          go_wp2_with fail
          go_quiet (fail)
          go_wp2_with fail
          go_region_held3 (fun w' => w'.cell? ⟨b', off', none⟩ = some (.string ky) ∧ w'.cell? ⟨b', off' + 1, none⟩ = some (.string vy) ∧ w'.cell? ⟨b', off' + 2, none⟩ = some (.bool gy)) (first | (exact ⟨hL3.ext.cell g1, hL3.ext.cell g2, hL3.ext.cell g3⟩) | go_keep)
            (first | (refine step_app_ent (by rfl) _ _ (by rfl) w _ done (by rfl) (by repeat (first | exact hL | refine Lst.drew ?_ | refine Lst.drewN ?_ _ | refine Lst.alloc ?_ _)) wr.heap.size ky vy gy (by rfl) (by repeat (first | exact Blk.new' _ _ _ (by simp) | refine Blk.drew ?_ | refine Blk.drewN ?_ _)) (by omega) ?_; intro gg cap2 w3 hL3))
          go_wp2
          go_roundw
          case rel => exact ⟨⟨kx, vx, gx⟩ :: xs', ys', _, _, _, ca', cb' - 1, rfl, rfl, by simpa using hca, by omega, HA.out, hB2, hL3, hG2⟩
          case measure => simp [lenV]
        · have hle : Op.bytesLess ky.toList kx.toList = false := Lt.nless hc
          have HC : Hid (¬ Lt ky kx) := hc
          clear hc hB2 s2 hp2 g1 g2 g3 l2 l3
          go_wp2_with fail
          go_quiet (fail)
          go_wp2_with fail
          clear l1 hle
          obtain ⟨wo, hwo⟩ : ∃ wo : World, wo = wr.drewN nq := ⟨_, rfl⟩
          have hLo : Lst w wo u5 done := by rw [hwo]; exact hL.drewN nq
          have HY : Hid (DropG kx (⟨ky, vy, gy⟩ :: ys') (⟨ky, vy, gy⟩ :: ys')) := ⟨rfl, Nat.le_refl _⟩
          rw [← hwo]
          clear hwo hL k1 k2 k3
          go_loopw [1] (fun b wi => ∃ (zs : List Ent) (zo : Option Addr) (cz : Nat), b = .slice zo zs.length cz ∧ zs.length ≤ cz ∧ EntsAt w zo zs ∧ DropG kx (⟨ky, vy, gy⟩ :: ys') zs ∧ Lst w wi u5 done) (fun b _ => lenV b)
          case atStart => exact ⟨⟨ky, vy, gy⟩ :: ys', _, cb', rfl, by simpa using hcb, HB.out, HY.out, hLo⟩
          case round =>
            clear hLo HY HB
            obtain ⟨zs, zo, cz, rfl, hcz, hZ, hD, hLi⟩ := hrel
            have hdl := hD.len
            have k1 := hLi.ext.cell h1
            have k2 := hLi.ext.cell h2
            have k3 := hLi.ext.cell h3
            cases zs with
            | nil =>
              have hG2 := hG.a HC.out hD (by intro z r e; cases e)
              clear hG hD
              simp only [List.length_nil] at *
              go_wp2_with fail
              go_quiet (fail)
              go_wp2_with fail
              go_region_held3 (fun w' => w'.cell? ⟨b, off, none⟩ = some (.string kx) ∧ w'.cell? ⟨b, off + 1, none⟩ = some (.string vx) ∧ w'.cell? ⟨b, off + 2, none⟩ = some (.bool gx)) (first | (exact ⟨hL3.ext.cell h1, hL3.ext.cell h2, hL3.ext.cell h3⟩) | go_keep)
                (first | (refine step_app_ent (by rfl) _ _ (by rfl) w _ done (by rfl) (by repeat (first | exact hLi | refine Lst.drew ?_ | refine Lst.drewN ?_ _ | refine Lst.alloc ?_ _)) wr.heap.size kx vx gx (by rfl) (by repeat (first | exact Blk.new' _ _ _ (by simp) | refine Blk.drew ?_ | refine Blk.drewN ?_ _)) (by omega) ?_; intro gg cap2 w3 hL3))
              go_wp2
              go_roundw
              case rel => exact ⟨xs', [], _, _, zo, ca' - 1, cz, rfl, rfl, by omega, hcz, hA2, hZ, hL3, hG2⟩
              case measure => simp [lenV] at *; omega
            | cons z r =>
              obtain ⟨b2, off2, kz, vz, gz, rfl, hf, m1, m2, m3⟩ := hZ.get (k := 0) (by simp)
              obtain rfl : z = ⟨kz, vz, gz⟩ := by simpa using hf
              simp only [Nat.zero_mul, Nat.add_zero] at m1
              have n1 := hLi.ext.cell m1
              have hp2 : (0 : Int) < (r.length : Int) + 1 := by omega
              clear hf m1 m2 m3
              by_cases hz : kz = kx
              · subst hz
                have hD2 := hD.step rfl
                have hZ2 := hZ.tl (cap := cz) (by simpa using hcz)
                have s2 := fun W => run_tl W (some ⟨b2, off2, none⟩) r.length cz
                clear hD hZ
                simp only [List.length_cons] at *
                go_wp2_with fail
                go_quiet (fail)
                go_wp2
                go_roundw
                case rel => exact ⟨r, _, cz - 1, rfl, by omega, hZ2, hD2, hLi.drewN _⟩
                case measure => simp [lenV]
              · have hbe : (kz.toList == kx.toList) = false := beq_ne hz
                have hG2 := hG.a HC.out hD (by intro z' r' e; simp at e; rw [← e.1]; exact hz)
                obtain ⟨zo, hzo⟩ : ∃ zo : Option Addr, zo = some ⟨b2, off2, none⟩ := ⟨_, rfl⟩
                clear hG hD hz
                simp only [List.length_cons] at *
                go_wp2_with fail
                go_quiet (fail)
                go_wp2_with fail
                go_region_held3 (fun w' => w'.cell? ⟨b, off, none⟩ = some (.string kx) ∧ w'.cell? ⟨b, off + 1, none⟩ = some (.string vx) ∧ w'.cell? ⟨b, off + 2, none⟩ = some (.bool gx)) (first | (exact ⟨hL3.ext.cell h1, hL3.ext.cell h2, hL3.ext.cell h3⟩) | go_keep)
                  (first | (refine step_app_ent (by rfl) _ _ (by rfl) w _ done (by rfl) (by repeat (first | exact hLi | refine Lst.drew ?_ | refine Lst.drewN ?_ _ | refine Lst.alloc ?_ _)) wr.heap.size kx vx gx (by rfl) (by repeat (first | exact Blk.new' _ _ _ (by simp) | refine Blk.drew ?_ | refine Blk.drewN ?_ _)) (by omega) ?_; intro gg cap2 w3 hL3))
                go_wp2
                go_roundw
                case rel => exact ⟨xs', (⟨kz, vz, gz⟩ :: r), _, _, _, ca' - 1, cz, rfl, rfl, by omega, by simpa using hcz, hA2, hZ, hL3, hG2⟩
                case measure => simp [lenV] at *; omega
end Go.Proofs.Ytpldeejagomfjaa
