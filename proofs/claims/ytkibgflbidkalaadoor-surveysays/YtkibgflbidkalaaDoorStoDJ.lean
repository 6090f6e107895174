/- StoC StoD. -/
import Derived.Test.YtkibgflbidkalaaDoorStoBJ
import Derived.Deep.LoopGhost

/- A block is claimed: for a log (Erase), for a table (lay's function). -/
namespace Go.Proofs.YtkibgflbidkalaaDoor
open Go.RowKit Go.WideShapes

theorem neqErr (n m : Int) (W : World) : (binOp .neq 36 (.iface 62 (.int .i64 n)) (.iface 62 (.int .i64 m))).run Tryd.prog W = .ok (.bool (!(n == m))) W := by
  kernel_rfl
theorem ChipAt.oth {w : World} {cb g : Nat} {M : CM} (h : ChipAt w cb M) (hp : M.pend = none) (hne : ¬ g = cb) (i : Nat) (v : Value) : ChipAt (w.setCell ⟨g, i, none⟩ v) cb M := by
  obtain ⟨⟨cs, fv, h1, h2, h3⟩, h4⟩ := h
  refine ⟨⟨cs, fv, h1.other (show cb ≠ g from fun e => hne e.symm) v, h2, ?_⟩, h4⟩
  rw [hp] at h3 ⊢
  exact h3
/-- How many blocks are not in use. -/
def unN (L : List Int) : Nat := (List.range 24).countP (fun b : Nat => !decide ((b : Int) ∈ L))
theorem unN_snoc {L : List Int} {b : Nat} (hb : b < 24) (h : (b : Int) ∉ L) : unN (L ++ [(b : Int)]) < unN L := by
  have key : ∀ X : List Nat, X.countP (fun c : Nat => !decide ((c : Int) ∈ L ++ [(b : Int)])) + (if b ∈ X then 1 else 0) ≤ X.countP (fun c : Nat => !decide ((c : Int) ∈ L)) := by
    intro X
    induction X with
    | nil => simp
    | cons y Y ih =>
      simp only [List.countP_cons]
      by_cases e : y = b
      · subst e
        have h1 : (if y ∈ y :: Y then 1 else 0) = 1 := by simp
        rw [h1]
        have h2 : (!decide ((y : Int) ∈ L ++ [(y : Int)])) = false := by simp
        have h3 : (!decide ((y : Int) ∈ L)) = true := by simp [h]
        rw [h2, h3]
        simp only [if_true, Bool.false_eq_true, if_false]
        split at ih <;> omega
      · have hne : ¬ b = y := fun h => e h.symm
        have h1 : (if b ∈ y :: Y then 1 else 0) = (if b ∈ Y then 1 else 0) := by simp [hne]
        have h2 : (!decide ((y : Int) ∈ L ++ [(b : Int)])) = (!decide ((y : Int) ∈ L)) := by
          have : ¬ (y : Int) = (b : Int) := by omega
          simp [this]
        rw [h1, h2]
        omega
  have := key (List.range 24)
  rw [if_pos (by simp; exact hb)] at this
  unfold unN
  omega
/-- A claim's end. -/
structure ClaimE (rd : CM → Nat → CM × Int) (w w' : World) (cb ub : Nat) (M : CM) (L : List Int) (e : Ending) : Prop where
  ex : ∃ M' L' b er, Claimed rd M L M' L' b er ∧ e = .returned (.tuple #[.int .i64 ((b : Nat) : Int), errV er]) ∧ ChipAt w' cb M' ∧ Blk w' ub (usedC L') 115 ∧ Kp w w' [cb, ub]
set_option maxRecDepth 20000 in
set_option maxHeartbeats 4000000 in
theorem claimE_any (cb ub : Nat) (M : CM) (L : List Int) (w : World) (h : ChipAt w cb M) (hu : Blk w ub (usedC L) 115) (hne : ¬ ub = cb) (hub : M.left ≤ 9223372036854775807) (hp : M.pend = none) (hwr : ∀ b, M.wr b ≤ 999999000) :
    Calls Tryd.prog 38 #[.pointer (some ⟨cb, 0, none⟩), .pointer (some ⟨ub, 0, none⟩), .func (.func 39) #[.pointer (some ⟨cb, 0, none⟩)] #[]] w fun e w' => ClaimE rdErase w w' cb ub M L e := by
  have HRD : Hid (RdOk rdErase (fun M b => M.pg b = [])) := rdErase_ok
  have n1 := neqErr
  have HW0 : Hid (∀ b, M.wr b ≤ 999999000) := hwr
  clear hwr
  go_enter Tryd.func38, Tryd.ntmps38
  go_wp2
  go_loopg [8, 9, 10] (unN L) (fun gm _ _ _ wr => ∃ Mk Lk, gm = unN Lk ∧ ChipAt wr cb Mk ∧ Blk wr ub (usedC Lk) 115 ∧ Mk.pend = none ∧ Adv L M Lk Mk ∧ Kp w wr [cb, ub] ∧ ∀ M' L' b e, Claimed rdErase Mk Lk M' L' b e → Claimed rdErase M L M' L' b e)
  case atStart => exact ⟨M, L, rfl, h, hu, hp, Adv.refl _ _, Kp.refl _ _, fun _ _ _ _ h => h⟩
  case round =>
    obtain ⟨Mk, Lk, rfl, hc, hU, hpk, hA, hK, hT⟩ := hrel
    have HF := free_any cb ub Mk Lk wr hc hU
    have HUB : Hid (Mk.left ≤ 9223372036854775807) := hA.leq _ hub (by omega)
    have HWR : Hid (WrOk Mk) := fun b _ => by have := (hA.wr b).1; have := HW0.out b; omega
    cases hf : freeS Mk Lk with
    | none =>
      have HE : Hid (Claimed rdErase M L Mk Lk 0 8) := hT _ _ _ _ (.full hf)
      rw [hf] at HF
      have HF2 : Hid (Calls Tryd.prog 65 #[.pointer (some ⟨cb, 0, none⟩), .pointer (some ⟨ub, 0, none⟩)] wr fun e w' => e = .returned (.tuple #[.int .i64 0, .bool false]) ∧ w' = wr) := HF
      clear HF hT hf h hu hub hp
      go_wp2_with (go_at_call 65; refine HF2.out.mono ?_; rintro e w1 ⟨rfl, rfl⟩)
      go_ret2
      exact ⟨_, _, 0, 8, HE.out, rfl, hc, hU, hK⟩
    | some b =>
      have hfo := freeS_some hf
      rw [hf] at HF
      have HF2 : Hid (Calls Tryd.prog 65 #[.pointer (some ⟨cb, 0, none⟩), .pointer (some ⟨ub, 0, none⟩)] wr fun e w' => e = .returned (.tuple #[.int .i64 (b : Int), .bool true]) ∧ w' = wr) := HF
      have hb24 : b < 24 := hfo.lt
      have hbI : (b : Int) < 24 := by omega
      have hu0 : wr.cell? ⟨ub, b, none⟩ = some (.bool (decide ((b : Int) ∈ Lk))) := by rw [hU.cell, usedC_get _ _ hb24]
      have huf := hU.free b
      have hul := hU.lt
      have hU2 : Hid (Blk (wr.setCell ⟨ub, b, none⟩ (.bool true)) ub (usedC (Lk ++ [(b : Int)])) 115) := by
        have := hU.set b (.bool true)
        rw [usedC_set] at this; exact this
      have hc2 : ChipAt (wr.setCell ⟨ub, b, none⟩ (.bool true)) cb Mk := hc.oth hpk hne _ _
      have hK2 : Hid (Kp w (wr.setCell ⟨ub, b, none⟩ (.bool true)) [cb, ub]) := hK.trans (Kp.set wr (by simp) _)
      have HC : Hid (Calls Tryd.prog 39 #[.pointer (some ⟨cb, 0, none⟩), .int .i64 (b : Int)] (wr.setCell ⟨ub, b, none⟩ (.bool true)) (WrEnd (wr.setCell ⟨ub, b, none⟩ (.bool true)) cb (rdErase Mk b))) := erase_any cb b Mk _ hc2 HUB.out HWR.out
      have HA : Hid (Adv L M Lk Mk) := hA
      have HP : Hid (Mk.pend = none) := hpk
      have HU3 : Hid (∀ w2, (wr.setCell ⟨ub, b, none⟩ (.bool true)).grownBy w2 (some cb) → Blk w2 ub (usedC (Lk ++ [(b : Int)])) 115 ∧ Kp w w2 [cb, ub]) := fun w2 hg => ⟨hU2.out.grown hg hne, hK2.out.trans ((Kp.grown hg).mono (by simp))⟩
      have HT : Hid (∀ M' L' b e, Claimed rdErase Mk Lk M' L' b e → Claimed rdErase M L M' L' b e) := hT
      have HFO : Hid (FreeOk Mk Lk 22 b) := hfo
      have HFS : Hid (freeS Mk Lk = some b) := hf
      generalize decide ((b : Int) ∈ Lk) = dd at *
      clear HF hT hf h hu hub hp hfo hU hc hc2 hU2 hK hK2 hA hpk
      by_cases h0 : (rdErase Mk b).2 = 0
      · have HC0 : Hid (Calls Tryd.prog 39 #[.pointer (some ⟨cb, 0, none⟩), .int .i64 (b : Int)] (wr.setCell ⟨ub, b, none⟩ (.bool true)) fun e w' => e = .returned .nilIface ∧ ChipAt w' cb (rdErase Mk b).1 ∧ (wr.setCell ⟨ub, b, none⟩ (.bool true)).grownBy w' (some cb)) := HC.out.mono fun e w' ⟨h1, h2, h3⟩ => ⟨by rw [h1, h0]; rfl, h2, h3⟩
        have HE : Hid (Claimed rdErase M L (rdErase Mk b).1 (Lk ++ [(b : Int)]) b 0) := HT.out _ _ _ _ (.got HFS.out h0)
        clear HC h0 HT HFS HFO
        generalize (rdErase Mk b).1 = M2 at *
        go_wp2_with (first
          | (go_at_call 65; refine HF2.out.mono ?_; rintro e w1 ⟨rfl, rfl⟩)
          | (go_at_call 39; refine HC0.out.mono ?_; rintro e w2 ⟨rfl, hc2, hg2⟩))
        go_ret2
        exact ⟨_, _, b, 0, HE.out, rfl, hc2, (HU3.out w2 hg2).1, (HU3.out w2 hg2).2⟩
      · have HC0 : Hid (Calls Tryd.prog 39 #[.pointer (some ⟨cb, 0, none⟩), .int .i64 (b : Int)] (wr.setCell ⟨ub, b, none⟩ (.bool true)) fun e w' => e = .returned (.iface 62 (.int .i64 (rdErase Mk b).2)) ∧ ChipAt w' cb (rdErase Mk b).1 ∧ (wr.setCell ⟨ub, b, none⟩ (.bool true)).grownBy w' (some cb)) := HC.out.mono fun e w' ⟨h1, h2, h3⟩ => ⟨by rw [h1]; unfold errV; rw [if_neg h0], h2, h3⟩
        have HER : Hid (errV (rdErase Mk b).2 = .iface 62 (.int .i64 (rdErase Mk b).2)) := by unfold errV Hid; rw [if_neg h0]
        by_cases h7 : (rdErase Mk b).2 = 7
        · have HW : Hid ((rdErase Mk b).1.pend = none ∧ Adv L M (Lk ++ [(b : Int)]) (rdErase Mk b).1 ∧ unN (Lk ++ [(b : Int)]) < unN Lk ∧ ∀ M' L' c e, Claimed rdErase (rdErase Mk b).1 (Lk ++ [(b : Int)]) M' L' c e → Claimed rdErase M L M' L' c e) := by
            have hfo := HFO.out
            refine ⟨?_, ?_, unN_snoc hfo.lt hfo.un, fun M' L' c e hh => HT.out _ _ _ _ (.next HFS.out h7 hh)⟩
            · cases hw : Mk.wk b with
              | true => rw [HRD.out.weak Mk b HP.out hfo.lt hfo.bd hw]; exact HP.out
              | false =>
                rcases (HRD.out.sound Mk b HP.out hfo.lt hfo.bd hw).2 with ⟨hh, _⟩ | ⟨hh, _⟩ <;> rw [hh] at h7 <;> cases h7
            · cases hw : Mk.wk b with
              | true => rw [HRD.out.weak Mk b HP.out hfo.lt hfo.bd hw]; exact HA.out.trans (Adv.weak hw)
              | false =>
                rcases (HRD.out.sound Mk b HP.out hfo.lt hfo.bd hw).2 with ⟨hh, _⟩ | ⟨hh, _⟩ <;> rw [hh] at h7 <;> cases h7
          have HC7 : Hid (Calls Tryd.prog 39 #[.pointer (some ⟨cb, 0, none⟩), .int .i64 (b : Int)] (wr.setCell ⟨ub, b, none⟩ (.bool true)) fun e w' => e = .returned (.iface 62 (.int .i64 7)) ∧ ChipAt w' cb (rdErase Mk b).1 ∧ (wr.setCell ⟨ub, b, none⟩ (.bool true)).grownBy w' (some cb)) := HC0.out.mono fun e w' ⟨h1, h2, h3⟩ => ⟨by rw [h1, h7], h2, h3⟩
          clear HC HC0 h0 h7 HT HFS HFO HER
          generalize (rdErase Mk b).1 = M2 at *
          go_wp2_with (first
            | (go_at_call 65; refine HF2.out.mono ?_; rintro e w1 ⟨rfl, rfl⟩)
            | (go_at_call 39; refine HC7.out.mono ?_; rintro e w2 ⟨rfl, hc2, hg2⟩))
          go_roundg (unN (Lk ++ [(b : Int)]))
          case measure => exact HW.out.2.2.1
          case rel => exact ⟨M2, Lk ++ [(b : Int)], rfl, hc2, (HU3.out w2 hg2).1, HW.out.1, HW.out.2.1, (HU3.out w2 hg2).2, HW.out.2.2.2⟩
        · have HE : Hid (Claimed rdErase M L (rdErase Mk b).1 (Lk ++ [(b : Int)]) 0 (rdErase Mk b).2) := HT.out _ _ _ _ (.err HFS.out h0 h7)
          have h7' : ((rdErase Mk b).2 == 7) = false := by simp [h7]
          clear HC h0 h7 HT HFS HFO
          generalize (rdErase Mk b).1 = M2 at *
          generalize (rdErase Mk b).2 = f at *
          go_wp2_with (first
            | (go_at_call 65; refine HF2.out.mono ?_; rintro e w1 ⟨rfl, rfl⟩)
            | (go_at_call 39; refine HC0.out.mono ?_; rintro e w2 ⟨rfl, hc2, hg2⟩))
          go_ret2
          exact ⟨_, _, 0, f, HE.out, by rw [HER.out]; rfl, hc2, (HU3.out w2 hg2).1, (HU3.out w2 hg2).2⟩
set_option maxRecDepth 20000 in
set_option maxHeartbeats 1000000 in
theorem lay1_any (cb kb pb : Nat) (b : Nat) (ao : Option Addr) (cap : Nat) (es : List Ent) (M : CM) (w : World) (h : ChipAt w cb M) (hub : M.left ≤ 9223372036854775807) (hwr : WrOk M) (hl : es.length ≤ 1000) (hcap : es.length ≤ cap) (hes : EntsAt w ao es) (hne : ∀ a, ao = some a → ¬ a.block = cb)
    (hk : Blk w kb #[.pointer (some ⟨cb, 0, none⟩)] 23) (hp : Blk w pb #[.slice ao es.length cap] 32) :
    Calls Tryd.prog 60 #[.int .i64 (b : Int), .pointer (some ⟨kb, 0, none⟩), .pointer (some ⟨pb, 0, none⟩)] w (WrEnd w cb (rdTab es M b)) := by
  have CW : Hid (Calls Tryd.prog 61 #[.pointer (some ⟨cb, 0, none⟩), .int .i64 (b : Int), .slice ao es.length cap] w (WrEnd w cb (rdTab es M b))) := tabWrite_any cb b ao cap es M w h hub hwr hl hcap hes (fun _ => hne)
  have c1 := hk.cell 0
  have c2 := hp.cell 0
  simp at c1 c2
  clear h hub hwr hl hcap hes hne hk hp
  generalize rdTab es M b = r at *
  go_enter Tryd.func60, Tryd.ntmps60
  go_wp2_with (go_at_call 61; refine CW.out.mono ?_; rintro e w1 ⟨rfl, hc, hg⟩)
  go_ret
  exact ⟨rfl, hc, hg⟩
set_option maxRecDepth 20000 in
set_option maxHeartbeats 4000000 in
theorem claimT_any (cb ub : Nat) (kb pb : Nat) (ao : Option Addr) (cap : Nat) (es : List Ent) (M : CM) (L : List Int) (w : World) (h : ChipAt w cb M) (hu : Blk w ub (usedC L) 115) (hne : ¬ ub = cb) (hub : M.left ≤ 9223372036854775807) (hp : M.pend = none) (hwr : ∀ b, M.wr b ≤ 999999000) (hz : tabF es = 0) (hcap : es.length ≤ cap) (hes : EntsAt w ao es) (hao : ∀ a, ao = some a → ¬ a.block = cb ∧ ¬ a.block = ub) (hk : Blk w kb #[.pointer (some ⟨cb, 0, none⟩)] 23) (hpb : Blk w pb #[.slice ao es.length cap] 32) (hkn : ¬ kb = cb ∧ ¬ kb = ub) (hpn : ¬ pb = cb ∧ ¬ pb = ub) :
    Calls Tryd.prog 38 #[.pointer (some ⟨cb, 0, none⟩), .pointer (some ⟨ub, 0, none⟩), .func (.func 60) #[] #[.pointer (some ⟨kb, 0, none⟩), .pointer (some ⟨pb, 0, none⟩)]] w fun e w' => ClaimE (rdTab es) w w' cb ub M L e := by
  have HRD : Hid (RdOk (rdTab es) (fun M b => TabAt M b es)) := rdTab_ok hz
  have n1 := neqErr
  have HW0 : Hid (∀ b, M.wr b ≤ 999999000) := hwr
  clear hwr
  have HZ : Hid (es.length ≤ 1000) := by have := (tabF_zero hz).2.1; exact (by omega : es.length ≤ 1000)
  have HKP : Hid (∀ W, Kp w W [cb, ub] → EntsAt W ao es ∧ Blk W kb #[.pointer (some ⟨cb, 0, none⟩)] 23 ∧ Blk W pb #[.slice ao es.length cap] 32) := fun W hK => ⟨hes.kp hK (fun a ha => by have := hao a ha; simp [this.1, this.2]), hK.Blk hk (by simp [hkn.1, hkn.2]), hK.Blk hpb (by simp [hpn.1, hpn.2])⟩
  have HAO : Hid (∀ a, ao = some a → ¬ a.block = cb) := fun a ha => (hao a ha).1
  have HCAP : Hid (es.length ≤ cap) := hcap
  clear hz hes hao hk hpb hkn hpn hcap
  go_enter Tryd.func38, Tryd.ntmps38
  go_wp2
  go_loopg [8, 9, 10] (unN L) (fun gm _ _ _ wr => ∃ Mk Lk, gm = unN Lk ∧ ChipAt wr cb Mk ∧ Blk wr ub (usedC Lk) 115 ∧ Mk.pend = none ∧ Adv L M Lk Mk ∧ Kp w wr [cb, ub] ∧ ∀ M' L' b e, Claimed (rdTab es) Mk Lk M' L' b e → Claimed (rdTab es) M L M' L' b e)
  case atStart => exact ⟨M, L, rfl, h, hu, hp, Adv.refl _ _, Kp.refl _ _, fun _ _ _ _ h => h⟩
  case round =>
    obtain ⟨Mk, Lk, rfl, hc, hU, hpk, hA, hK, hT⟩ := hrel
    have HF := free_any cb ub Mk Lk wr hc hU
    have HUB : Hid (Mk.left ≤ 9223372036854775807) := hA.leq _ hub (by omega)
    have HWR : Hid (WrOk Mk) := fun b _ => by have := (hA.wr b).1; have := HW0.out b; omega
    cases hf : freeS Mk Lk with
    | none =>
      have HE : Hid (Claimed (rdTab es) M L Mk Lk 0 8) := hT _ _ _ _ (.full hf)
      rw [hf] at HF
      have HF2 : Hid (Calls Tryd.prog 65 #[.pointer (some ⟨cb, 0, none⟩), .pointer (some ⟨ub, 0, none⟩)] wr fun e w' => e = .returned (.tuple #[.int .i64 0, .bool false]) ∧ w' = wr) := HF
      clear HF hT hf h hu hub hp
      go_wp2_with (go_at_call 65; refine HF2.out.mono ?_; rintro e w1 ⟨rfl, rfl⟩)
      go_ret2
      exact ⟨_, _, 0, 8, HE.out, rfl, hc, hU, hK⟩
    | some b =>
      have hfo := freeS_some hf
      rw [hf] at HF
      have HF2 : Hid (Calls Tryd.prog 65 #[.pointer (some ⟨cb, 0, none⟩), .pointer (some ⟨ub, 0, none⟩)] wr fun e w' => e = .returned (.tuple #[.int .i64 (b : Int), .bool true]) ∧ w' = wr) := HF
      have hb24 : b < 24 := hfo.lt
      have hbI : (b : Int) < 24 := by omega
      have hu0 : wr.cell? ⟨ub, b, none⟩ = some (.bool (decide ((b : Int) ∈ Lk))) := by rw [hU.cell, usedC_get _ _ hb24]
      have huf := hU.free b
      have hul := hU.lt
      have hU2 : Hid (Blk (wr.setCell ⟨ub, b, none⟩ (.bool true)) ub (usedC (Lk ++ [(b : Int)])) 115) := by
        have := hU.set b (.bool true)
        rw [usedC_set] at this; exact this
      have hc2 : ChipAt (wr.setCell ⟨ub, b, none⟩ (.bool true)) cb Mk := hc.oth hpk hne _ _
      have hK2 : Hid (Kp w (wr.setCell ⟨ub, b, none⟩ (.bool true)) [cb, ub]) := hK.trans (Kp.set wr (by simp) _)
      have HC : Hid (Calls Tryd.prog 60 #[.int .i64 (b : Int), .pointer (some ⟨kb, 0, none⟩), .pointer (some ⟨pb, 0, none⟩)] (wr.setCell ⟨ub, b, none⟩ (.bool true)) (WrEnd (wr.setCell ⟨ub, b, none⟩ (.bool true)) cb ((rdTab es) Mk b))) := lay1_any cb kb pb b ao cap es Mk _ hc2 HUB.out HWR.out HZ.out HCAP.out (HKP.out _ hK2.out).1 HAO.out (HKP.out _ hK2.out).2.1 (HKP.out _ hK2.out).2.2
      have HA : Hid (Adv L M Lk Mk) := hA
      have HP : Hid (Mk.pend = none) := hpk
      have HU3 : Hid (∀ w2, (wr.setCell ⟨ub, b, none⟩ (.bool true)).grownBy w2 (some cb) → Blk w2 ub (usedC (Lk ++ [(b : Int)])) 115 ∧ Kp w w2 [cb, ub]) := fun w2 hg => ⟨hU2.out.grown hg hne, hK2.out.trans ((Kp.grown hg).mono (by simp))⟩
      have HT : Hid (∀ M' L' b e, Claimed (rdTab es) Mk Lk M' L' b e → Claimed (rdTab es) M L M' L' b e) := hT
      have HFO : Hid (FreeOk Mk Lk 22 b) := hfo
      have HFS : Hid (freeS Mk Lk = some b) := hf
      generalize decide ((b : Int) ∈ Lk) = dd at *
      clear HF hT hf h hu hub hp hfo hU hc hc2 hU2 hK hK2 hA hpk
      by_cases h0 : ((rdTab es) Mk b).2 = 0
      · have HC0 : Hid (Calls Tryd.prog 60 #[.int .i64 (b : Int), .pointer (some ⟨kb, 0, none⟩), .pointer (some ⟨pb, 0, none⟩)] (wr.setCell ⟨ub, b, none⟩ (.bool true)) fun e w' => e = .returned .nilIface ∧ ChipAt w' cb ((rdTab es) Mk b).1 ∧ (wr.setCell ⟨ub, b, none⟩ (.bool true)).grownBy w' (some cb)) := HC.out.mono fun e w' ⟨h1, h2, h3⟩ => ⟨by rw [h1, h0]; rfl, h2, h3⟩
        have HE : Hid (Claimed (rdTab es) M L ((rdTab es) Mk b).1 (Lk ++ [(b : Int)]) b 0) := HT.out _ _ _ _ (.got HFS.out h0)
        clear HC h0 HT HFS HFO
        generalize ((rdTab es) Mk b).1 = M2 at *
        go_wp2_with (first
          | (go_at_call 65; refine HF2.out.mono ?_; rintro e w1 ⟨rfl, rfl⟩)
          | (go_at_call 60; refine HC0.out.mono ?_; rintro e w2 ⟨rfl, hc2, hg2⟩))
        go_ret2
        exact ⟨_, _, b, 0, HE.out, rfl, hc2, (HU3.out w2 hg2).1, (HU3.out w2 hg2).2⟩
      · have HC0 : Hid (Calls Tryd.prog 60 #[.int .i64 (b : Int), .pointer (some ⟨kb, 0, none⟩), .pointer (some ⟨pb, 0, none⟩)] (wr.setCell ⟨ub, b, none⟩ (.bool true)) fun e w' => e = .returned (.iface 62 (.int .i64 ((rdTab es) Mk b).2)) ∧ ChipAt w' cb ((rdTab es) Mk b).1 ∧ (wr.setCell ⟨ub, b, none⟩ (.bool true)).grownBy w' (some cb)) := HC.out.mono fun e w' ⟨h1, h2, h3⟩ => ⟨by rw [h1]; unfold errV; rw [if_neg h0], h2, h3⟩
        have HER : Hid (errV ((rdTab es) Mk b).2 = .iface 62 (.int .i64 ((rdTab es) Mk b).2)) := by unfold errV Hid; rw [if_neg h0]
        by_cases h7 : ((rdTab es) Mk b).2 = 7
        · have HW : Hid (((rdTab es) Mk b).1.pend = none ∧ Adv L M (Lk ++ [(b : Int)]) ((rdTab es) Mk b).1 ∧ unN (Lk ++ [(b : Int)]) < unN Lk ∧ ∀ M' L' c e, Claimed (rdTab es) ((rdTab es) Mk b).1 (Lk ++ [(b : Int)]) M' L' c e → Claimed (rdTab es) M L M' L' c e) := by
            have hfo := HFO.out
            refine ⟨?_, ?_, unN_snoc hfo.lt hfo.un, fun M' L' c e hh => HT.out _ _ _ _ (.next HFS.out h7 hh)⟩
            · cases hw : Mk.wk b with
              | true => rw [HRD.out.weak Mk b HP.out hfo.lt hfo.bd hw]; exact HP.out
              | false =>
                rcases (HRD.out.sound Mk b HP.out hfo.lt hfo.bd hw).2 with ⟨hh, _⟩ | ⟨hh, _⟩ <;> rw [hh] at h7 <;> cases h7
            · cases hw : Mk.wk b with
              | true => rw [HRD.out.weak Mk b HP.out hfo.lt hfo.bd hw]; exact HA.out.trans (Adv.weak hw)
              | false =>
                rcases (HRD.out.sound Mk b HP.out hfo.lt hfo.bd hw).2 with ⟨hh, _⟩ | ⟨hh, _⟩ <;> rw [hh] at h7 <;> cases h7
          have HC7 : Hid (Calls Tryd.prog 60 #[.int .i64 (b : Int), .pointer (some ⟨kb, 0, none⟩), .pointer (some ⟨pb, 0, none⟩)] (wr.setCell ⟨ub, b, none⟩ (.bool true)) fun e w' => e = .returned (.iface 62 (.int .i64 7)) ∧ ChipAt w' cb ((rdTab es) Mk b).1 ∧ (wr.setCell ⟨ub, b, none⟩ (.bool true)).grownBy w' (some cb)) := HC0.out.mono fun e w' ⟨h1, h2, h3⟩ => ⟨by rw [h1, h7], h2, h3⟩
          clear HC HC0 h0 h7 HT HFS HFO HER
          generalize ((rdTab es) Mk b).1 = M2 at *
          go_wp2_with (first
            | (go_at_call 65; refine HF2.out.mono ?_; rintro e w1 ⟨rfl, rfl⟩)
            | (go_at_call 60; refine HC7.out.mono ?_; rintro e w2 ⟨rfl, hc2, hg2⟩))
          go_roundg (unN (Lk ++ [(b : Int)]))
          case measure => exact HW.out.2.2.1
          case rel => exact ⟨M2, Lk ++ [(b : Int)], rfl, hc2, (HU3.out w2 hg2).1, HW.out.1, HW.out.2.1, (HU3.out w2 hg2).2, HW.out.2.2.2⟩
        · have HE : Hid (Claimed (rdTab es) M L ((rdTab es) Mk b).1 (Lk ++ [(b : Int)]) 0 ((rdTab es) Mk b).2) := HT.out _ _ _ _ (.err HFS.out h0 h7)
          have h7' : (((rdTab es) Mk b).2 == 7) = false := by simp [h7]
          clear HC h0 h7 HT HFS HFO
          generalize ((rdTab es) Mk b).1 = M2 at *
          generalize ((rdTab es) Mk b).2 = f at *
          go_wp2_with (first
            | (go_at_call 65; refine HF2.out.mono ?_; rintro e w1 ⟨rfl, rfl⟩)
            | (go_at_call 60; refine HC0.out.mono ?_; rintro e w2 ⟨rfl, hc2, hg2⟩))
          go_ret2
          exact ⟨_, _, 0, f, HE.out, by rw [HER.out]; rfl, hc2, (HU3.out w2 hg2).1, (HU3.out w2 hg2).2⟩
end Go.Proofs.YtkibgflbidkalaaDoor

/- Claims and layings as functions. -/
namespace Go.Proofs.YtkibgflbidkalaaDoor
open Go.RowKit Go.WideShapes

theorem Claimed.unique {rd : CM → Nat → CM × Int} {M M1 : CM} {L L1 : List Int} {b1 : Nat} {e1 : Int} (h : Claimed rd M L M1 L1 b1 e1) : ∀ {M2 : CM} {L2 : List Int} {b2 : Nat} {e2 : Int}, Claimed rd M L M2 L2 b2 e2 → M2 = M1 ∧ L2 = L1 ∧ b2 = b1 ∧ e2 = e1 := by
  induction h with
  | full h =>
    intro M2 L2 b2 e2 k
    cases k with
    | full => exact ⟨rfl, rfl, rfl, rfl⟩
    | got h' => rw [h] at h'; cases h'
    | err h' => rw [h] at h'; cases h'
    | next h' => rw [h] at h'; cases h'
  | got h h0 =>
    intro M2 L2 b2 e2 k
    cases k with
    | full h' => rw [h] at h'; cases h'
    | got h' => rw [h] at h'; cases h'; exact ⟨rfl, rfl, rfl, rfl⟩
    | err h' h1 => rw [h] at h'; cases h'; exact absurd h0 h1
    | next h' h7 => rw [h] at h'; cases h'; rw [h0] at h7; cases h7
  | err h h0 h7 =>
    intro M2 L2 b2 e2 k
    cases k with
    | full h' => rw [h] at h'; cases h'
    | got h' h1 => rw [h] at h'; cases h'; exact absurd h1 h0
    | err h' => rw [h] at h'; cases h'; exact ⟨rfl, rfl, rfl, rfl⟩
    | next h' h1 => rw [h] at h'; cases h'; exact absurd h1 h7
  | next h h7 _ ih =>
    intro M2 L2 b2 e2 k
    cases k with
    | full h' => rw [h] at h'; cases h'
    | got h' h1 => rw [h] at h'; cases h'; rw [h1] at h7; cases h7
    | err h' _ h1 => rw [h] at h'; cases h'; exact absurd h7 h1
    | next h' _ hr => rw [h] at h'; cases h'; exact ih hr
/-- What comes of a claim. -/
structure CR where
  M : CM
  L : List Int
  b : Nat
  e : Int
def claimF (rd : CM → Nat → CM × Int) : Nat → CM → List Int → CR
  | 0, M, L => ⟨M, L, 0, 8⟩
  | f + 1, M, L => match freeS M L with
    | none => ⟨M, L, 0, 8⟩
    | some b => if (rd M b).2 = 0 then ⟨(rd M b).1, L ++ [(b : Int)], b, 0⟩ else if (rd M b).2 = 7 then claimF rd f (rd M b).1 (L ++ [(b : Int)]) else ⟨(rd M b).1, L ++ [(b : Int)], 0, (rd M b).2⟩
def claimS (rd : CM → Nat → CM × Int) (M : CM) (L : List Int) : CR := claimF rd 25 M L
theorem claimF_is (rd : CM → Nat → CM × Int) : ∀ (f : Nat) (M : CM) (L : List Int), unN L < f → Claimed rd M L (claimF rd f M L).M (claimF rd f M L).L (claimF rd f M L).b (claimF rd f M L).e
  | 0, M, L, h => absurd h (Nat.not_lt_zero _)
  | f + 1, M, L, h => by
    unfold claimF
    split
    · rename_i hn; exact .full hn
    · rename_i b hb
      split
      · rename_i h0; exact .got hb h0
      · rename_i h0
        split
        · rename_i h7
          have hfo := freeS_some hb
          have := unN_snoc hfo.lt hfo.un
          exact .next hb h7 (claimF_is rd f _ _ (by omega))
        · rename_i h7; exact .err hb h0 h7
theorem unN_le (L : List Int) : unN L ≤ 24 := by
  unfold unN
  have := List.countP_le_length (p := fun b : Nat => !decide ((b : Int) ∈ L)) (l := List.range 24)
  simpa using this
theorem claimS_is (rd : CM → Nat → CM × Int) (M : CM) (L : List Int) : Claimed rd M L (claimS rd M L).M (claimS rd M L).L (claimS rd M L).b (claimS rd M L).e := claimF_is rd 25 M L (by have := unN_le L; omega)
/-- A claim has been made. -/
structure ClaimD (r : CR) (w w' : World) (cb ub : Nat) (e : Ending) : Prop where
  ret : e = .returned (.tuple #[.int .i64 (r.b : Int), errV r.e])
  chip : ChipAt w' cb r.M
  used : Blk w' ub (usedC r.L) 115
  kept : Kp w w' [cb, ub]
theorem ClaimE.det {rd : CM → Nat → CM × Int} {w w' : World} {cb ub : Nat} {M : CM} {L : List Int} {e : Ending} (h : ClaimE rd w w' cb ub M L e) : ClaimD (claimS rd M L) w w' cb ub e := by
  obtain ⟨M', L', b, er, h1, h2, h3, h4, h5⟩ := h.ex
  obtain ⟨rfl, rfl, rfl, rfl⟩ := (claimS_is rd M L).unique h1
  exact ⟨h2, h3, h4, h5⟩
/-- What comes of a laying. -/
structure LR where
  M : CM
  L : List Int
  bs : List Nat
  e : Int
def layS : CM → List Int → List (List Ent) → LR
  | M, L, [] => ⟨M, L, [], 0⟩
  | M, L, p :: ps => if (claimS (rdTab p) M L).e = 0 then
      ⟨(layS (claimS (rdTab p) M L).M (claimS (rdTab p) M L).L ps).M, (layS (claimS (rdTab p) M L).M (claimS (rdTab p) M L).L ps).L, if (layS (claimS (rdTab p) M L).M (claimS (rdTab p) M L).L ps).e = 0 then (claimS (rdTab p) M L).b :: (layS (claimS (rdTab p) M L).M (claimS (rdTab p) M L).L ps).bs else [], (layS (claimS (rdTab p) M L).M (claimS (rdTab p) M L).L ps).e⟩
    else ⟨(claimS (rdTab p) M L).M, (claimS (rdTab p) M L).L, [], (claimS (rdTab p) M L).e⟩
theorem layS_snoc : ∀ (ps : List (List Ent)) (M : CM) (L : List Int) (q : List Ent), (layS M L ps).e = 0 →
    layS M L (ps ++ [q]) = if (claimS (rdTab q) (layS M L ps).M (layS M L ps).L).e = 0 then ⟨(claimS (rdTab q) (layS M L ps).M (layS M L ps).L).M, (claimS (rdTab q) (layS M L ps).M (layS M L ps).L).L, (layS M L ps).bs ++ [(claimS (rdTab q) (layS M L ps).M (layS M L ps).L).b], 0⟩
      else ⟨(claimS (rdTab q) (layS M L ps).M (layS M L ps).L).M, (claimS (rdTab q) (layS M L ps).M (layS M L ps).L).L, [], (claimS (rdTab q) (layS M L ps).M (layS M L ps).L).e⟩
  | [], M, L, q, _ => by
    show layS M L [q] = _
    simp only [layS]
    split
    · rename_i h; simp [h]
    · rename_i h; simp [h]
  | p :: ps, M, L, q, h => by
    have hc : (claimS (rdTab p) M L).e = 0 := by
      by_cases hc : (claimS (rdTab p) M L).e = 0
      · exact hc
      · simp only [layS, if_neg hc] at h; exact absurd h hc
    have h' : (layS (claimS (rdTab p) M L).M (claimS (rdTab p) M L).L ps).e = 0 := by
      simp only [layS, if_pos hc] at h; exact h
    have ih := layS_snoc ps (claimS (rdTab p) M L).M (claimS (rdTab p) M L).L q h'
    have e1 : layS M L (p :: ps ++ [q]) = ⟨(layS (claimS (rdTab p) M L).M (claimS (rdTab p) M L).L (ps ++ [q])).M, (layS (claimS (rdTab p) M L).M (claimS (rdTab p) M L).L (ps ++ [q])).L, if (layS (claimS (rdTab p) M L).M (claimS (rdTab p) M L).L (ps ++ [q])).e = 0 then (claimS (rdTab p) M L).b :: (layS (claimS (rdTab p) M L).M (claimS (rdTab p) M L).L (ps ++ [q])).bs else [], (layS (claimS (rdTab p) M L).M (claimS (rdTab p) M L).L (ps ++ [q])).e⟩ := by
      rw [List.cons_append]
      show layS M L (p :: (ps ++ [q])) = _
      simp only [layS]; rw [if_pos hc]
    have e2 : layS M L (p :: ps) = ⟨(layS (claimS (rdTab p) M L).M (claimS (rdTab p) M L).L ps).M, (layS (claimS (rdTab p) M L).M (claimS (rdTab p) M L).L ps).L, (claimS (rdTab p) M L).b :: (layS (claimS (rdTab p) M L).M (claimS (rdTab p) M L).L ps).bs, 0⟩ := by
      simp only [layS]; rw [if_pos hc, if_pos h', h']
    rw [e1, e2, ih]
    dsimp only
    split
    · simp
    · simp
theorem layS_stop : ∀ (ps : List (List Ent)) (M : CM) (L : List Int) (qs : List (List Ent)), ¬ (layS M L ps).e = 0 → layS M L (ps ++ qs) = layS M L ps
  | [], M, L, qs, h => absurd rfl h
  | p :: ps, M, L, qs, h => by
    rw [List.cons_append]
    by_cases hc : (claimS (rdTab p) M L).e = 0
    · have h' : ¬ (layS (claimS (rdTab p) M L).M (claimS (rdTab p) M L).L ps).e = 0 := by
        simp only [layS, if_pos hc] at h; exact h
      have ih := layS_stop ps (claimS (rdTab p) M L).M (claimS (rdTab p) M L).L qs h'
      simp only [layS, if_pos hc, ih]
    · simp only [layS, if_neg hc]
theorem layS_nil : ∀ {ps : List (List Ent)} {M : CM} {L : List Int}, ¬ (layS M L ps).e = 0 → (layS M L ps).bs = []
  | [], _, _, h => absurd rfl h
  | p :: ps, M, L, h => by
    by_cases hc : (claimS (rdTab p) M L).e = 0
    · simp only [layS, if_pos hc] at h ⊢
      rw [if_neg h]
    · simp only [layS, if_neg hc]
theorem layS_laid (M : CM) (L : List Int) : ∀ (n : Nat) (ps : List (List Ent)), ps.length = n → (layS M L ps).e = 0 → Laid M L ps (layS M L ps).M (layS M L ps).L (layS M L ps).bs
  | 0, ps, h, _ => by
    obtain rfl := List.eq_nil_of_length_eq_zero h
    exact .nil
  | n + 1, ps, h, he => by
    have hne : ps ≠ [] := fun e => by subst e; simp at h
    have hs := List.dropLast_concat_getLast hne
    generalize ps.dropLast = qs at hs
    generalize ps.getLast hne = q at hs
    subst hs
    have hq : (layS M L qs).e = 0 := by
      by_cases hq : (layS M L qs).e = 0
      · exact hq
      · rw [layS_stop _ _ _ _ hq] at he; exact absurd he hq
    have ih := layS_laid M L n qs (by simpa using h) hq
    have hsn := layS_snoc qs M L q hq
    by_cases hc : (claimS (rdTab q) (layS M L qs).M (layS M L qs).L).e = 0
    · rw [if_pos hc] at hsn
      rw [hsn]
      have := claimS_is (rdTab q) (layS M L qs).M (layS M L qs).L
      rw [hc] at this
      exact .snoc ih this
    · rw [if_neg hc] at hsn; rw [hsn] at he; exact absurd he hc
/-- A laying that came to no good end. -/
structure LayBad (M : CM) (L : List Int) (ps : List (List Ent)) (r : LR) : Prop where
  ex : ∃ qs p M1 L1 bs b, Laid M L qs M1 L1 bs ∧ (∀ x ∈ qs, x ∈ ps) ∧ p ∈ ps ∧ qs.length < ps.length ∧ Claimed (rdTab p) M1 L1 r.M r.L b r.e
theorem layS_bad (M : CM) (L : List Int) : ∀ (n : Nat) (ps : List (List Ent)), ps.length = n → ¬ (layS M L ps).e = 0 → LayBad M L ps (layS M L ps)
  | 0, ps, h, he => by
    obtain rfl := List.eq_nil_of_length_eq_zero h
    exact absurd rfl he
  | n + 1, ps, h, he => by
    have hne : ps ≠ [] := fun e => by subst e; simp at h
    have hs := List.dropLast_concat_getLast hne
    generalize ps.dropLast = qs at hs
    generalize ps.getLast hne = q at hs
    subst hs
    by_cases hq : (layS M L qs).e = 0
    · have hl := layS_laid M L qs.length qs rfl hq
      have hsn := layS_snoc qs M L q hq
      by_cases hc : (claimS (rdTab q) (layS M L qs).M (layS M L qs).L).e = 0
      · rw [if_pos hc] at hsn; rw [hsn] at he; exact absurd rfl he
      · rw [if_neg hc] at hsn
        rw [hsn]
        exact ⟨qs, q, _, _, _, _, hl, fun x hx => List.mem_append_left _ hx, by simp, by simp, claimS_is _ _ _⟩
    · rw [layS_stop _ _ _ _ hq]
      obtain ⟨qs', p, M1, L1, bs, b, h1, h2, h3, h4, h5⟩ := (layS_bad M L n qs (by simpa using h) hq).ex
      exact ⟨qs', p, M1, L1, bs, b, h1, fun x hx => List.mem_append_left _ (h2 x hx), List.mem_append_left _ h3, by simp; omega, h5⟩
end Go.Proofs.YtkibgflbidkalaaDoor
