/- StoJ StoK StoL. -/
import Derived.Test.YtjeinblcpejpnabGreatDoorStoI
import Derived.Test.YtjeinblcpejpnabGreatDoorStoE
import Derived.Test.YtjeinblcpejpnabGreatDoorStoR
import Derived.Test.YtjeinblcpejpnabGreatDoorStoD

/- A store in memory: a manifest is noted. -/
namespace Go.Proofs.YtjeinblcpejpnabGreatDoor
open Go.RowKit Go.WideShapes

def addrB (o : Option Addr) : List Nat := o.toList.map (·.block)
theorem mem_addrB {o : Option Addr} {b : Nat} : b ∈ addrB o ↔ ∃ p, o = some p ∧ p.block = b := by
  cases o <;> simp [addrB, eq_comm]
def withA (x : SMem) (no : Option Addr) (nc : Nat) (oo : Option Addr) (oc : Nat) : SMem := ⟨no, nc, oo, oc, x.hb, x.ns⟩
/-- A slice of numbers lies apart from a store. -/
structure Apart (w : World) (sb cb : Nat) (x : SMem) (no : Option Addr) : Prop where
  d : ∀ p, no = some p → ¬ p.block = cb ∧ ¬ p.block = sb ∧ p.block ∉ x.hb :: x.ns.map Nd.b
  lt : ∀ p, no = some p → p.block < w.heap.size
  g : ∀ p, no = some p → ¬ p.block = 1
set_option maxRecDepth 20000 in
set_option maxHeartbeats 4000000 in
theorem note_sto (w : World) (S : List Nat) (sb cb : Nat) (M : CM) (m : Man) (a : Nat) (x : SMem) (m' : Man) (e0 : Int) (no oo : Option Addr) (nc oc : Nat) (h : StoAt w S sb cb M m a x) (ha : a ≤ 1) (hub : M.left ≤ 9223372036854775807) (hwr : WrOk M) (hep : m'.ep = m.ep + 1) (hep2 : m'.ep ≤ 100000) (hep0 : 0 ≤ m.ep) (hf : manFault m' = 0)
    (hn : NumsAt w no m'.nw) (ho : NumsAt w oo m'.od) (hn1 : Apart w sb cb x no) (ho1 : Apart w sb cb x oo) (hE : noteE M a (manTxt m') = 0) (hP : (noteM M a (manTxt m')).pend = none) :
    Calls Tryz.prog 54 #[.pointer (some ⟨sb, 0, none⟩), .agg #[.int .i64 e0, .int .i64 m'.lg, .slice no m'.nw.length nc, .slice oo m'.od.length oc]] w fun e w' => e = .returned .nilIface ∧ StoAt w' (S ++ addrB no ++ addrB oo) sb cb (noteM M a (manTxt m')) m' (noteAt M a) (withA x no nc oo oc) ∧ Kp w w' [cb, sb] := by
  have k0 := h.blk.cell 0
  have k1 := h.blk.cell 1
  have k5 := h.blk.cell 5
  simp [storeC] at k0 k1 k5
  have hxb : Ext w (w.alloc (.cells #[.int .i64 m'.ep, .int .i64 m'.lg, .slice no m'.nw.length nc, .slice oo m'.od.length oc] 65)) := (Ext.refl w).alloc _
  have CN : Hid (∀ W, Ext w W → Calls Tryz.prog 87 #[.pointer (some ⟨cb, 0, none⟩), .int .i64 (a : Int), .agg #[.int .i64 m'.ep, .int .i64 m'.lg, .slice no m'.nw.length nc, .slice oo m'.od.length oc]] W fun e w' => e = .returned (.tuple #[.int .i64 (noteAt M a : Int), .nilIface]) ∧ ChipAt w' cb (noteM M a (manTxt m')) ∧ W.grownBy w' (some cb)) := fun W hx => by
    refine (note_any cb a M m' no oo nc oc W (h.chip.ext hx) ha hub hwr (hn.ext hx) (ho.ext hx) hf).mono ?_
    rintro e w' ⟨h1, h2, h3⟩
    rcases h1 with ⟨_, h1⟩ | ⟨h1, _⟩
    · exact ⟨h1, h2, h3⟩
    · exact absurd hE h1
  have HH : Hid (StoAt w S sb cb M m a x) := h
  have HA : Hid (Apart w sb cb x no ∧ Apart w sb cb x oo ∧ NumsAt w no m'.nw ∧ NumsAt w oo m'.od) := ⟨hn1, ho1, hn, ho⟩
  have HP : Hid ((noteM M a (manTxt m')).pend = none) := hP
  have hslt : sb < w.heap.size := h.blk.lt
  have hclt : cb < w.heap.size := h.chip.lt
  have hsc := h.sc
  have HM : Hid (m'.ep = m.ep + 1) := hep
  have hep3 : m.ep + 1 ≤ 100000 := by omega
  rw [hep] at CN hxb
  clear h hub hwr hf hn ho hn1 ho1 hE hP hep hep2
  generalize noteM M a (manTxt m') = M2 at *
  generalize noteAt M a = a2 at *
  go_enter Tryz.func54, Tryz.ntmps54
  go_wp2
  have bx : Blk (w.alloc (.cells #[.int .i64 (m.ep + 1), .int .i64 m'.lg, .slice no m'.nw.length nc, .slice oo m'.od.length oc] 65)) w.heap.size #[.int .i64 (m.ep + 1), .int .i64 m'.lg, .slice no m'.nw.length nc, .slice oo m'.od.length oc] 65 := Blk.new _ _ _
  have z0 := hxb.cell k0
  have z5 := hxb.cell k5
  generalize w.alloc (.cells #[.int .i64 (m.ep + 1), .int .i64 m'.lg, .slice no m'.nw.length nc, .slice oo m'.od.length oc] 65) = wa at *
  have y0 := bx.cell 0
  have y1 := bx.cell 1
  have y2 := bx.cell 2
  have y3 := bx.cell 3
  simp at y0 y1 y2 y3
  have hwb : ¬ w.heap.size = cb := by omega
  have HB3 : Hid (∀ W W', Ext wa W → W.grownBy W' (some cb) → Blk W' sb (storeC cb m a x) 75 ∧ Blk W' w.heap.size #[.int .i64 (m.ep + 1), .int .i64 m'.lg, .slice no m'.nw.length nc, .slice oo m'.od.length oc] 65) := fun W W' hx hg => ⟨((HH.out.blk.ext hxb).ext hx).grown hg hsc, (bx.ext hx).grown hg hwb⟩
  have HKP : Hid (∀ W W', Ext wa W → W.grownBy W' (some cb) → Kp w W' [cb, sb]) := fun W W' hx hg => (Kp.ofExt (hxb.trans hx) _).trans ((Kp.grown hg).mono (by simp))
  have HXB : Hid (Ext w wa) := hxb
  clear hxb k0 k1 k5 bx
  go_region_held3 (fun w' => (w'.cell? ⟨sb, 0, none⟩ = some (.pointer (some ⟨cb, 0, none⟩)) ∧ w'.cell? ⟨sb, 5, none⟩ = some (.int .i64 (a : Int))) ∧ (w'.cell? ⟨w.heap.size, 0, none⟩ = some (.int .i64 (m.ep + 1)) ∧ w'.cell? ⟨w.heap.size, 1, none⟩ = some (.int .i64 m'.lg) ∧ w'.cell? ⟨w.heap.size, 2, none⟩ = some (.slice no m'.nw.length nc) ∧ w'.cell? ⟨w.heap.size, 3, none⟩ = some (.slice oo m'.od.length oc)))
    (first | (go_keep; done) | exact ⟨⟨hB3.1.cell 0, hB3.1.cell 5⟩, hB3.2.cell 0, hB3.2.cell 1, hB3.2.cell 2, hB3.2.cell 3⟩)
    (first | (go_at_call 87; refine (CN.out _ (HXB.out.trans (by repeat (first | exact Ext.refl _ | refine Ext.drew ?_ | refine Ext.drewN ?_ _ | refine Ext.alloc ?_ _)))).mono ?_; rintro e w3 ⟨rfl, hc3, hg3⟩; have hB3 := HB3.out _ _ (by repeat (first | exact Ext.refl _ | refine Ext.drew ?_ | refine Ext.drewN ?_ _ | refine Ext.alloc ?_ _)) hg3; have hK3 := HKP.out _ _ (by repeat (first | exact Ext.refl _ | refine Ext.drew ?_ | refine Ext.drewN ?_ _ | refine Ext.alloc ?_ _)) hg3))
  obtain ⟨hb3, hx3⟩ := hB3
  have u0 := hx3.cell 0
  have u1 := hx3.cell 1
  have u2 := hx3.cell 2
  have u3 := hx3.cell 3
  have v1 := hb3.cell 1
  have v2 := hb3.cell 2
  have v3 := hb3.cell 3
  have v4 := hb3.cell 4
  have v5 := hb3.cell 5
  simp [storeC] at u0 u1 u2 u3 v1 v2 v3 v4 v5
  have f1 := hb3.free 1
  have f2 := hb3.free 2
  have f3 := hb3.free 3
  have f4 := hb3.free 4
  have f5 := hb3.free 5
  have hsl3 := hb3.lt
  have HB4 : Hid (Blk w3 sb (storeC cb m a x) 75) := hb3
  clear HB3 HKP hg3 hb3 hx3 CN z0 z5 y0 y1 y2 y3
  go_wp2
  go_ret
  have hh := HH.out
  obtain ⟨n1, o1, n2, o2⟩ := HA.out
  have hset : ∀ {W : World}, Kp w W [cb, sb] → ∀ i v, Kp w (W.setCell ⟨sb, i, none⟩ v) [cb, sb] := fun hk i v => hk.trans (Kp.set _ (by simp) v)
  have hK9 := hset (hset (hset (hset (hset hK3 1 (.int .i64 (m.ep + 1))) 2 (.int .i64 m'.lg)) 3 (.slice no m'.nw.length nc)) 4 (.slice oo m'.od.length oc)) 5 (.int .i64 (a2 : Int))
  have hc9 : ∀ {W : World}, ChipAt W cb M2 → ∀ i v, ChipAt (W.setCell ⟨sb, i, none⟩ v) cb M2 := fun hc i v => hc.oth HP.out hsc i v
  have hch := hc9 (hc9 (hc9 (hc9 (hc9 hc3 1 (.int .i64 (m.ep + 1))) 2 (.int .i64 m'.lg)) 3 (.slice no m'.nw.length nc)) 4 (.slice oo m'.od.length oc)) 5 (.int .i64 (a2 : Int))
  have hbl := ((((HB4.out.set 1 (.int .i64 (m.ep + 1))).set 2 (.int .i64 m'.lg)).set 3 (.slice no m'.nw.length nc)).set 4 (.slice oo m'.od.length oc)).set 5 (.int .i64 (a2 : Int))
  refine ⟨rfl, ⟨hch, hh.glob.kp hK9 (fun hm => ?_), ?_, n2.kp hK9 (fun p e => ?_), o2.kp hK9 (fun p e => ?_), hh.tow.kp hK9 (fun b hb => ?_), hsc, hh.ts, n1.d, o1.d, ?_, fun b hb => ?_, fun p hp => ?_, fun hm => ?_, fun b hb => ?_⟩, hK9⟩
  · rcases List.mem_cons.1 hm with e | hm
    · exact hh.gS (e ▸ hh.cS.1)
    · simp at hm; exact hh.gS (hm ▸ hh.cS.2)
  · have e : storeC cb m' a2 (withA x no nc oo oc) = ((((((storeC cb m a x).setIfInBounds 1 (.int .i64 (m.ep + 1))).setIfInBounds 2 (.int .i64 m'.lg)).setIfInBounds 3 (.slice no m'.nw.length nc)).setIfInBounds 4 (.slice oo m'.od.length oc)).setIfInBounds 5 (.int .i64 (a2 : Int))) := by
      unfold storeC withA; rw [HM.out]; rfl
    rw [e]; exact hbl
  · have := n1.d p e; simp [this.1, this.2.1]
  · have := o1.d p e; simp [this.1, this.2.1]
  · have := hh.ts b hb; simp [this.1, this.2]
  · exact ⟨by simp [hh.cS.1], by simp [hh.cS.2]⟩
  · have := hh.tS b hb; simp [this]
  · rcases hp with hp | hp
    · exact List.mem_append_left _ (List.mem_append_right _ (mem_addrB.2 ⟨p, hp, rfl⟩))
    · exact List.mem_append_right _ (mem_addrB.2 ⟨p, hp, rfl⟩)
  · simp only [List.mem_append] at hm
    rcases hm with (hm | hm) | hm
    · exact hh.gS hm
    · obtain ⟨p, hp, e⟩ := mem_addrB.1 hm; exact n1.g p hp e
    · obtain ⟨p, hp, e⟩ := mem_addrB.1 hm; exact o1.g p hp e
  · have hsz := hK9.size
    simp only [List.mem_append] at hb
    rcases hb with (hb | hb) | hb
    · exact Nat.lt_of_lt_of_le (hh.lt b hb) hsz
    · obtain ⟨p, hp, e⟩ := mem_addrB.1 hb; rw [← e]; exact Nat.lt_of_lt_of_le (n1.lt p hp) hsz
    · obtain ⟨p, hp, e⟩ := mem_addrB.1 hb; rw [← e]; exact Nat.lt_of_lt_of_le (o1.lt p hp) hsz
end Go.Proofs.YtjeinblcpejpnabGreatDoor

/- A store in plain words: what keeps it; what becomes of it where the machine falls. -/
namespace Go.Proofs.YtjeinblcpejpnabGreatDoor
open Go.RowKit

theorem pageM_same {M M' : CM} {b : Nat} (h : M'.pg b = M.pg b) (p : Nat) : pageM M' b p = pageM M b p := by
  rw [pageM_pg, pageM_pg, h]
/-- The newest manifest is in the first blocks: no others matter. -/
theorem Nst.keep2 {M M' : CM} {a : Nat} {o : Option Man} (h : Nst M a o) (hp : M'.pend = none) (h1 : ∀ b, b < 2 → M'.pg b = M.pg b) (h2 : ∀ b, b < 2 → M'.wk b = M.wk b) (h3 : ∀ b, b < 2 → M'.bd b = M.bd b) : Nst M' a o := by
  obtain ⟨p, hp1, hp2⟩ := h.new
  have hle := h.le
  refine ⟨h.le, hp, fun b hb => ⟨by rw [h2 b hb]; exact (h.sound b hb).1, by rw [h3 b hb]; exact (h.sound b hb).2⟩, fun b hb => by rw [h1 b hb]; exact h.len b hb, p, by rw [pageM_same (h1 a (by omega))]; exact hp1, fun b q m' hb hne hq => hp2 b q m' hb hne (by rw [pageM_same (h1 b hb)] at hq; exact hq)⟩
theorem scan_of : ∀ (l seen : List Int), (∀ x ∈ l, 2 ≤ x ∧ x < 24) → l.Nodup → (∀ x ∈ l, x ∉ seen) → scan seen l = 0
  | [], _, _, _, _ => rfl
  | x :: r, seen, hr, hn, hs => by
    have h1 := hr x (by simp)
    obtain ⟨hx, hn'⟩ := List.nodup_cons.1 hn
    rw [scan, if_neg (by omega), if_neg (hs x (by simp))]
    exact scan_of r (seen ++ [x]) (fun y hy => hr y (List.mem_cons_of_mem _ hy)) hn' (fun y hy hm => by
      rcases List.mem_append.1 hm with hm | hm
      · exact hs y (List.mem_cons_of_mem _ hy) hm
      · simp at hm; subst hm; exact hx hy)
theorem man_of {m : Man} (h1 : 1 ≤ m.ep) (h2 : m.ep ≤ 100000) (hr : ∀ x ∈ m.lg :: (m.nw ++ m.od), 2 ≤ x ∧ x < 24) (hn : (m.lg :: (m.nw ++ m.od)).Nodup) : manFault m = 0 := by
  unfold manFault manF
  rw [if_neg (by omega)]
  exact scan_of _ [] hr hn (by simp)
theorem man_names {m : Man} (h : manFault m = 0) : (∀ x ∈ m.lg :: (m.nw ++ m.od), 2 ≤ x ∧ x < 24) ∧ (m.lg :: (m.nw ++ m.od)).Nodup := by
  obtain ⟨_, hS⟩ := manF_zero h
  obtain ⟨h1, h2, _⟩ := scan_zero hS
  exact ⟨h1, h2⟩
/-- What keeps a store's blocks keeps the store. -/
theorem Inv.keep {n n' : Nat} {M M' : CM} {m : Man} {a : Nat} {hand : List Ent} {N O : List Tb} (h : Inv n M m a hand N O) (hpg : ∀ b : Nat, (b : Int) ∈ m.lg :: (m.nw ++ m.od) → M'.pg b = M.pg b) (hlow : ∀ b, b < 2 → M'.pg b = M.pg b) (hp : M'.pend = none) (hwk : M'.wk = M.wk)
    (hbw : ∀ b, M'.bd b = true → M'.wk b = true) (hwr : ∀ b, M'.wr b ≤ n') (hn : n ≤ n') : Inv n' M' m a hand N O := by
  have hb01 : ∀ b, b < 2 → M'.bd b = M.bd b := fun b hb => by
    have h1 := (h.nst.sound b hb)
    rw [h1.2]
    cases hh : M'.bd b with
    | false => rfl
    | true => have := hbw b hh; rw [hwk, h1.1] at this; cases this
  obtain ⟨g, hg, hl⟩ := h.lg
  refine ⟨h.nst.keep2 hp hlow (fun b _ => by rw [hwk]) hb01, h.ok, by have := h.ep; omega, hwr, h.nw, h.od, fun x hx => ?_, fun x hx => ?_, ⟨g, hg, hl.same (hpg g (by rw [hg]; simp))⟩, h.ris, h.live, h.few, h.few', h.rows, h.trows, hbw, by rw [hwk]; exact h.wk⟩
  · have ht := h.tn x hx
    exact ⟨ht.ok, ht.lt, by rw [hpg x.b (by rw [h.nw]; simp; exact .inr (.inl ⟨x, hx, rfl⟩))]; exact ht.pg⟩
  · have ht := h.told x hx
    exact ⟨ht.ok, ht.lt, by rw [hpg x.b (by rw [h.od]; simp; exact .inr (.inr ⟨x, hx, rfl⟩))]; exact ht.pg⟩
/-- Behind a fall in block c all others are as they were. -/
theorem restart_far {M : CM} {p : Pend} (hp : M.pend = some p) (how : Int) : (∀ b, ¬ b = pendB p → (restartM M how).pg b = M.pg b) ∧ (restartM M how).wk = M.wk ∧ (restartM M how).bd = M.bd ∧ (restartM M how).pend = none := by
  rw [restart_some how hp]
  unfold stepped
  cases p with
  | write b d =>
    refine ⟨fun c hc => ?_, ?_, ?_, rfl⟩
    · split
      · show upd M.pg b _ c = _; exact upd_other _ _ _ hc
      · split
        · show upd M.pg b _ c = _; exact upd_other _ _ _ hc
        · rfl
    · split
      · rfl
      · split <;> rfl
    · split
      · rfl
      · split <;> rfl
  | erase b =>
    refine ⟨fun c hc => ?_, ?_, ?_, rfl⟩
    · split
      · show upd M.pg b _ c = _; exact upd_other _ _ _ hc
      · split
        · show upd M.pg b _ c = _; exact upd_other _ _ _ hc
        · rfl
    · split
      · rfl
      · split <;> rfl
    · split
      · rfl
      · split <;> rfl
/-- The machine fell in a block that is none of the store's. -/
theorem Inv.fall {n : Nat} {M M' : CM} {m : Man} {a : Nat} {hand : List Ent} {N O : List Tb} {L' : List Int} {p : Pend} (h : Inv n M m a hand N O) (hA : Adv (m.lg :: (m.nw ++ m.od)) M L' M') (hp : M'.pend = some p) (h2 : 2 ≤ pendB p) (hu : ((pendB p : Nat) : Int) ∉ m.lg :: (m.nw ++ m.od)) (how : Int) : Inv (n + 2) (restartM M' how) m a hand N O := by
  obtain ⟨r1, r2, r3, r4⟩ := restart_far hp how
  refine h.keep (fun b hb => ?_) (fun b hb => ?_) r4 (by rw [r2, hA.wk]) (fun b hb => ?_) (fun b => ?_) (by omega)
  · rw [r1 b (fun e => hu (e ▸ hb)), hA.pg b hb]
  · rw [r1 b (by omega), hA.low b hb]
  · rw [r3] at hb
    rw [r2, hA.wk]
    rcases hA.bw b hb with h' | h'
    · exact h.bw b h'
    · exact h'
  · have h1 := restart_wr M' how b
    have h3 := (hA.wr b).1
    have := h.wr b
    omega
theorem Inv.adv {n : Nat} {M M' : CM} {m : Man} {a : Nat} {hand : List Ent} {N O : List Tb} {L' : List Int} (h : Inv n M m a hand N O) (hA : Adv (m.lg :: (m.nw ++ m.od)) M L' M') (hp : M'.pend = none) : Inv (n + 1) M' m a hand N O := by
  refine h.keep (fun b hb => hA.pg b hb) (fun b hb => hA.low b hb) hp hA.wk (fun b hb => ?_) (fun b => ?_) (by omega)
  · rw [hA.wk]
    rcases hA.bw b hb with h' | h'
    · exact h.bw b h'
    · exact h'
  · have h3 := (hA.wr b).1
    have := h.wr b
    omega
/-- A manifest is noted in the first blocks alone. -/
structure NoteFar (M : CM) (a : Nat) (s : ByteArray) : Prop where
  pg : ∀ b, 2 ≤ b → (noteM M a s).pg b = M.pg b
  wk : (noteM M a s).wk = M.wk
  bd : (noteM M a s).bd = M.bd
  pend : ∀ p, (noteM M a s).pend = some p → pendB p < 2
theorem note_far {M : CM} {a : Nat} {o : Option Man} {s : ByteArray} (h : Nst M a o) (hs : s.size ≤ 64) : NoteFar M a s := by
  have hle := h.le
  have wr : ∀ (M1 : CM) (b : Nat), b < 2 → M1.pend = none → M1.wk b = false → M1.bd b = false → (M1.pg b).length < 8 → (∀ c, 2 ≤ c → (writeM M1 (b : Int) s).pg c = M1.pg c) ∧ (writeM M1 (b : Int) s).wk = M1.wk ∧ (writeM M1 (b : Int) s).bd = M1.bd ∧ ∀ p, (writeM M1 (b : Int) s).pend = some p → pendB p < 2 := fun M1 b hb h1 h2 h3 h4 => by
    obtain ⟨_, e⟩ := write_nst (s := s) h1 (show b < 24 by omega) h3 h2 hs h4
    rw [e]
    split
    · refine ⟨fun c _ => rfl, rfl, rfl, fun p hp => ?_⟩
      simp only [Option.some.injEq] at hp
      subst hp; exact hb
    · refine ⟨fun c hc => ?_, tick_wk _, tick_bd _, fun p hp => ?_⟩
      · show upd (tickM M1).pg b _ c = _; rw [upd_other _ _ _ (by omega), tick_pg]
      · have : (tickM M1).pend = some p := hp
        rw [tick_pend, h1] at this; cases this
  by_cases h8 : (M.pg a).length = 8
  · obtain ⟨e1, e2⟩ := erase_nst (b := 1 - a) h.up (by omega) (h.sound (1 - a) (by omega)).2 (h.sound (1 - a) (by omega)).1
    by_cases hl : M.left = 0
    · rw [if_pos hl] at e1 e2
      have hM : noteM M a s = { M with pend := some (.erase (1 - a)) } := by
        unfold noteM noteE0 noteM0
        rw [if_pos h8, if_pos h8, e1, e2, if_pos (by simp)]
      rw [← hM] at e2
      refine ⟨fun b _ => by rw [hM], by rw [hM], by rw [hM], fun p hp => ?_⟩
      rw [hM] at hp
      simp only [Option.some.injEq] at hp
      subst hp; show 1 - a < 2; omega
    · rw [if_neg hl] at e1 e2
      have hM : noteM M a s = writeM (wipeM (tickM M) (1 - a) []) ((1 - a : Nat) : Int) s := by
        unfold noteM noteE0 noteM0 noteAt
        rw [if_pos h8, if_pos h8, if_pos h8, e1, e2, if_neg (by simp)]
      obtain ⟨w1, w2, w3, w4⟩ := wr (wipeM (tickM M) (1 - a) []) (1 - a) (by omega) (by show (tickM M).pend = none; rw [tick_pend]; exact h.up) (by show (tickM M).wk _ = false; rw [tick_wk]; exact (h.sound (1 - a) (by omega)).1) (by show (tickM M).bd _ = false; rw [tick_bd]; exact (h.sound (1 - a) (by omega)).2) (by show (upd (tickM M).pg (1 - a) [] (1 - a)).length < 8; rw [upd_same]; simp)
      rw [← hM] at w1 w2 w3 w4
      refine ⟨fun b hb => ?_, by rw [w2]; exact tick_wk M, by rw [w3]; exact tick_bd M, w4⟩
      rw [w1 b hb]
      show upd (tickM M).pg (1 - a) [] b = _
      rw [upd_other _ _ _ (by omega), tick_pg]
  · have hM : noteM M a s = writeM M (a : Int) s := by
      unfold noteM noteE0 noteM0 noteAt
      rw [if_neg h8, if_neg h8, if_neg h8, if_neg (by simp)]
    have h8' := h.len a (by omega)
    obtain ⟨w1, w2, w3, w4⟩ := wr M a (by omega) h.up (h.sound a (by omega)).1 (h.sound a (by omega)).2 (by omega)
    rw [← hM] at w1 w2 w3 w4
    exact ⟨w1, w2, w3, w4⟩
theorem write_down {M : CM} {b : Nat} {s : ByteArray} (hp : M.pend = none) (hb : b < 24) (hbd : M.bd b = false) (hwk : M.wk b = false) (hs : s.size ≤ 64) (hl : (M.pg b).length < 8) (h9 : writeE M (b : Int) s = 9) : ∃ p, (writeM M (b : Int) s).pend = some p := by
  obtain ⟨e1, e2⟩ := write_nst (s := s) hp hb hbd hwk hs hl
  rw [e1] at h9
  rw [e2]
  split at h9
  · rename_i h0; rw [if_pos h0]; exact ⟨_, rfl⟩
  · cases h9
theorem note_down_pend {M : CM} {a : Nat} {o : Option Man} {s : ByteArray} (h : Nst M a o) (hs : s.size ≤ 64) (h9 : noteE M a s = 9) : ∃ p, (noteM M a s).pend = some p := by
  have hle := h.le
  by_cases h8 : (M.pg a).length = 8
  · obtain ⟨e1, e2⟩ := erase_nst (b := 1 - a) h.up (by omega) (h.sound (1 - a) (by omega)).2 (h.sound (1 - a) (by omega)).1
    by_cases hl : M.left = 0
    · rw [if_pos hl] at e1 e2
      have hM : noteM M a s = { M with pend := some (.erase (1 - a)) } := by
        unfold noteM noteE0 noteM0
        rw [if_pos h8, if_pos h8, e1, e2, if_pos (by simp)]
      rw [hM]; exact ⟨_, rfl⟩
    · rw [if_neg hl] at e1 e2
      have hM : noteM M a s = writeM (wipeM (tickM M) (1 - a) []) ((1 - a : Nat) : Int) s ∧ noteE M a s = writeE (wipeM (tickM M) (1 - a) []) ((1 - a : Nat) : Int) s := by
        unfold noteM noteE noteE0 noteM0 noteAt
        rw [if_pos h8, if_pos h8, if_pos h8, e1, e2, if_neg (by simp), if_neg (by simp)]
        exact ⟨rfl, rfl⟩
      rw [hM.2] at h9
      rw [hM.1]
      exact write_down (by show (tickM M).pend = none; rw [tick_pend]; exact h.up) (by omega) (by show (tickM M).bd _ = false; rw [tick_bd]; exact (h.sound (1 - a) (by omega)).2) (by show (tickM M).wk _ = false; rw [tick_wk]; exact (h.sound (1 - a) (by omega)).1) hs (by show (upd (tickM M).pg (1 - a) [] (1 - a)).length < 8; rw [upd_same]; simp) h9
  · have hM : noteM M a s = writeM M (a : Int) s ∧ noteE M a s = writeE M (a : Int) s := by
      unfold noteM noteE noteE0 noteM0 noteAt
      rw [if_neg h8, if_neg h8, if_neg h8, if_neg (by simp), if_neg (by simp)]
      exact ⟨rfl, rfl⟩
    have h8' := h.len a (by omega)
    rw [hM.2] at h9
    rw [hM.1]
    exact write_down h.up (by omega) (h.sound a (by omega)).2 (h.sound a (by omega)).1 hs (by omega) h9
/-- Behind a fall a store is there, with such rows. -/
def FellOk (n : Nat) (M : CM) (P : List Ent → Prop) : Prop := ∀ how, ∃ m a hand N O, Inv n (restartM M how) m a hand N O ∧ P (rowsE hand N O) ∧ (restartM M how).left = -1 ∧ (restartM M how).wk = M.wk
theorem all_mem : ∀ (ls : List (List Ent)) (e : Ent), e ∈ allE ls → ∃ l ∈ ls, e ∈ l
  | [], e, h => by cases h
  | a :: r, e, h => by
    rcases puts_mem a (allE r) e h with h' | h'
    · exact ⟨a, by simp, h'⟩
    · obtain ⟨l, h1, h2⟩ := all_mem r e h'
      exact ⟨l, List.mem_cons_of_mem _ h1, h2⟩
theorem tabRows_ok {n : Nat} {M : CM} {m : Man} {a : Nat} {hand : List Ent} {N O : List Tb} (h : Inv n M m a hand N O) : ∀ e ∈ tabRows N O, faultE e = 0 := fun e he => by
  obtain ⟨l, hl, hel⟩ := all_mem _ e (List.mem_filter.1 (show e ∈ List.filter _ _ from he)).1
  rcases List.mem_append.1 hl with hl | hl
  · obtain ⟨x, hx, rfl⟩ := List.mem_map.1 hl
    exact tabF_fault (h.tn x hx).ok e hel
  · obtain ⟨x, hx, rfl⟩ := List.mem_map.1 hl
    exact tabF_fault (h.told x hx).ok e hel
end Go.Proofs.YtjeinblcpejpnabGreatDoor

/- A store in plain words: tables are put together; what is at hand is laid. -/
namespace Go.Proofs.YtjeinblcpejpnabGreatDoor
open Go.RowKit

def zipTb (bs : List Nat) (ps : List (List Ent)) : List Tb := List.zipWith Tb.mk bs ps
theorem zipTb_es : ∀ {bs : List Nat} {ps : List (List Ent)}, bs.length = ps.length → tabsE (zipTb bs ps) = ps
  | [], [], _ => rfl
  | b :: bs, p :: ps, h => by
    show p :: tabsE (zipTb bs ps) = _
    rw [zipTb_es (by simpa using h)]
theorem zipTb_b : ∀ {bs : List Nat} {ps : List (List Ent)}, bs.length = ps.length → (zipTb bs ps).map (fun x => (x.b : Int)) = intsN bs
  | [], [], _ => rfl
  | b :: bs, p :: ps, h => by
    show (b : Int) :: (zipTb bs ps).map (fun x => (x.b : Int)) = (b : Int) :: intsN bs
    rw [zipTb_b (by simpa using h)]
theorem zipTb_get : ∀ {bs : List Nat} {ps : List (List Ent)} {x : Tb}, x ∈ zipTb bs ps → ∃ i : Nat, bs[i]? = some x.b ∧ ps[i]? = some x.es
  | b :: bs, p :: ps, x, h => by
    rcases List.mem_cons.1 (show x ∈ Tb.mk b p :: zipTb bs ps from h) with rfl | h
    · exact ⟨0, rfl, rfl⟩
    · obtain ⟨i, h1, h2⟩ := zipTb_get h
      exact ⟨i + 1, h1, h2⟩
  | [], ps, x, h => by simp [zipTb] at h
  | b :: bs, [], x, h => by simp [zipTb] at h
theorem zipTb_len {bs : List Nat} {ps : List (List Ent)} (h : bs.length = ps.length) : (zipTb bs ps).length = ps.length := by simp [zipTb, h]
theorem names_len {n : Nat} {M : CM} {m : Man} {a : Nat} {hand : List Ent} {N O : List Tb} (h : Inv n M m a hand N O) : (m.lg :: (m.nw ++ m.od)).length = 1 + N.length + O.length := by
  rw [h.nw, h.od]; simp; omega
/-- A laying has its end: it is done, or the machine fell. -/
theorem lay_end {n : Nat} {M : CM} {m : Man} {a : Nat} {hand : List Ent} {N O : List Tb} (h : Inv n M m a hand N O) {L : List Int} {M0 : CM} (hA : Adv (m.lg :: (m.nw ++ m.od)) M L M0) (hp : M0.pend = none) (hgd : ∀ k, k ≤ 6 → k < goodN M.wk L + 1) {ps : List (List Ent)} (hps : ∀ p ∈ ps, tabF p = 0) (hpl : ps.length ≤ 6) :
    ((layS M0 L ps).e = 0 ∧ LaidOk M0 L ps (layS M0 L ps).M (layS M0 L ps).L (layS M0 L ps).bs) ∨ ((layS M0 L ps).e = 9 ∧ ¬ M.left < 0 ∧ (layS M0 L ps).M.wk = M.wk ∧ FellOk (n + 3) (layS M0 L ps).M (· = rowsE hand N O)) := by
  have hbw0 : ∀ b, M0.bd b = true → M0.wk b = true := fun b hb => by
    rw [hA.wk]
    rcases hA.bw b hb with h' | h'
    · exact h.bw b h'
    · exact h'
  by_cases he : (layS M0 L ps).e = 0
  · exact .inl ⟨he, (layS_laid M0 L _ ps rfl he).ok hp hbw0 hps⟩
  · obtain ⟨qs, p, M1, L1, bs, b, h1, h2, h3, h4, h5⟩ := (layS_bad M0 L _ ps rfl he).ex
    have hO := h1.ok hp hbw0 (fun q hq => hps q (h2 q hq))
    have hC := h5.ok (rdTab_ok (hps p h3)) hO.up hO.bw
    refine .inr ?_
    rcases hC.end_ with ⟨h0, _⟩ | ⟨h8, hg, _⟩ | ⟨h9, hl, q, hq1, hq2, hq3, hq4⟩
    · exact absurd h0 he
    · have hg1 := hO.good
      have hwk1 : M1.wk = M.wk := by rw [hO.adv.wk, hA.wk]
      rw [hwk1] at hg
      rw [hA.wk] at hg1
      have := hgd (qs.length + 1) (by omega)
      omega
    · have hA3 := (hA.trans hO.adv).trans hC.adv
      have hl0 : ¬ M.left < 0 := fun hn => hl (by
        rw [hO.adv.left (by rw [hA.left hn]; exact hn), hA.left hn]; exact hn)
      refine ⟨h9, hl0, hA3.wk, fun how => ⟨m, a, hand, N, O, ?_, rfl, restart_left _ _, (restart_far hq1 how).2.1⟩⟩
      have := h.fall hA3 hq1 hq2 (fun hm => hq4 (hO.adv.mono _ (hA.mono _ hm))) how
      exact this.keep (fun _ _ => rfl) (fun _ _ => rfl) this.nst.up rfl this.bw (fun b => by have := this.wr b; omega) (by omega)
theorem good_few {n : Nat} {M : CM} {m : Man} {a : Nat} {hand : List Ent} {N O : List Tb} (h : Inv n M m a hand N O) : 7 ≤ goodN M.wk (m.lg :: (m.nw ++ m.od)) := by
  have h1 := good_ge M.wk (m.lg :: (m.nw ++ m.od))
  have h2 := names_len h
  have h3 := h.few
  have h4 := h.few'
  have h5 := h.wk
  omega
/-- A manifest is noted, whose tables and log are there. -/
structure Next (M : CM) (m' : Man) (hand : List Ent) (N O : List Tb) : Prop where
  ok : manFault m' = 0
  nw : m'.nw = N.map (fun x => (x.b : Int))
  od : m'.od = O.map (fun x => (x.b : Int))
  tn : ∀ x ∈ N, TabAt M x.b x.es
  told : ∀ x ∈ O, TabAt M x.b x.es
  lg : ∃ g : Nat, m'.lg = (g : Int) ∧ LogAt M g hand
  ris : Ris (tabsE O).flatten
  live : ∀ e ∈ (tabsE O).flatten, e.gone = false
  few : N.length ≤ 5
  few' : O.length ≤ 3
  rows : (rowsE hand N O).length ≤ 40
  trows : (tabRows N O).length ≤ 40
theorem Next.inv {n : Nat} {M M' : CM} {m' : Man} {a : Nat} {hand : List Ent} {N O : List Tb} (h : Next M m' hand N O) (hpg : ∀ b, 2 ≤ b → M'.pg b = M.pg b) (hn : Nst M' a (some m')) (hep : m'.ep ≤ n) (hwr : ∀ b, M'.wr b ≤ n) (hbw : ∀ b, M'.bd b = true → M'.wk b = true) (hwk : wkN M'.wk ≤ 6) : Inv n M' m' a hand N O := by
  obtain ⟨g, hg, hl⟩ := h.lg
  have hnm := (man_names h.ok).1
  have hnw := h.nw
  have hod := h.od
  refine ⟨hn, h.ok, hep, hwr, h.nw, h.od, fun x hx => ?_, fun x hx => ?_, ⟨g, hg, hl.same (hpg g ?_)⟩, h.ris, h.live, h.few, h.few', h.rows, h.trows, hbw, hwk⟩
  · have ht := h.tn x hx
    have := hnm (x.b : Int) (by rw [hnw]; simp; exact .inr (.inl ⟨x, hx, rfl⟩))
    exact ⟨ht.ok, ht.lt, by rw [hpg x.b (by omega)]; exact ht.pg⟩
  · have ht := h.told x hx
    have := hnm (x.b : Int) (by rw [hod]; simp; exact .inr (.inr ⟨x, hx, rfl⟩))
    exact ⟨ht.ok, ht.lt, by rw [hpg x.b (by omega)]; exact ht.pg⟩
  · have := hnm m'.lg (by simp)
    omega
/-- A store whose next manifest is noted. -/
theorem note_end {n : Nat} {M M1 : CM} {m m' : Man} {a : Nat} {hand hand' : List Ent} {N O N' O' : List Tb} {L : List Int} (h : Inv n M m a hand N O) (hA : Adv (m.lg :: (m.nw ++ m.od)) M L M1) (hp : M1.pend = none) (hN : Next M1 m' hand' N' O') (hep : m'.ep = m.ep + 1) (hrow : rowsE hand' N' O' = rowsE hand N O) :
    (noteE M1 a (manTxt m') = 0 ∧ Inv (n + 2) (noteM M1 a (manTxt m')) m' (noteAt M1 a) hand' N' O' ∧ (noteM M1 a (manTxt m')).pend = none ∧ (noteM M1 a (manTxt m')).wk = M.wk ∧ (M.left < 0 → (noteM M1 a (manTxt m')).left = M.left) ∧ (∀ k, M.left ≤ k → 0 ≤ k → (noteM M1 a (manTxt m')).left ≤ k)) ∨
    (noteE M1 a (manTxt m') = 9 ∧ ¬ M.left < 0 ∧ (noteM M1 a (manTxt m')).wk = M.wk ∧ FellOk (n + 3) (noteM M1 a (manTxt m')) (· = rowsE hand N O)) := by
  have h1 := h.adv hA hp
  have hne := note_nst h1.nst hN.ok (fun m0 e => by cases e; omega)
  have hfar := note_far (s := manTxt m') h1.nst (by have := (manTxt_le hN.ok).1; omega)
  have hep0 := h.ep
  have hwr2 : ∀ b, (noteM M1 a (manTxt m')).wr b ≤ n + 2 := fun b => by have := hne.wr b; have := h1.wr b; omega
  have hbw2 : ∀ b, (noteM M1 a (manTxt m')).bd b = true → (noteM M1 a (manTxt m')).wk b = true := fun b hb => by rw [hfar.bd] at hb; rw [hfar.wk]; exact h1.bw b hb
  rcases hne.end_ with ⟨e0, e1, e2⟩ | ⟨e0, e1, e2⟩
  · refine .inl ⟨e0, hN.inv hfar.pg e1 (by omega) hwr2 hbw2 (by rw [hfar.wk]; exact h1.wk), e1.up, by rw [hfar.wk, hA.wk], fun hl => ?_, fun k k1 k2 => hne.left k (hA.leq k k1 k2) k2⟩
    rw [e2 (by rw [hA.left hl]; exact hl), hA.left hl]
  · refine .inr ⟨e0, fun hl => e1 (by rw [hA.left hl]; exact hl), by rw [hfar.wk, hA.wk], fun how => ?_⟩
    have hpend : ∃ p, (noteM M1 a (manTxt m')).pend = some p := by
      cases hh : (noteM M1 a (manTxt m')).pend with
      | some p => exact ⟨p, rfl⟩
      | none =>
        exfalso
        obtain ⟨p, hp⟩ := note_down_pend h1.nst (by have := (manTxt_le hN.ok).1; omega) e0
        rw [hh] at hp; cases hp
    obtain ⟨p, hpp⟩ := hpend
    have hp2 := hfar.pend p hpp
    obtain ⟨r1, r2, r3, r4⟩ := restart_far hpp how
    have hwr3 : ∀ b, (restartM (noteM M1 a (manTxt m')) how).wr b ≤ n + 3 := fun b => by have := restart_wr (noteM M1 a (manTxt m')) how b; have := hwr2 b; omega
    have hbw3 : ∀ b, (restartM (noteM M1 a (manTxt m')) how).bd b = true → (restartM (noteM M1 a (manTxt m')) how).wk b = true := fun b hb => by rw [r3] at hb; rw [r2]; exact hbw2 b hb
    have hpg3 : ∀ b, 2 ≤ b → (restartM (noteM M1 a (manTxt m')) how).pg b = M1.pg b := fun b hb => by rw [r1 b (by omega), hfar.pg b hb]
    have hwk3 : wkN (restartM (noteM M1 a (manTxt m')) how).wk ≤ 6 := by rw [r2, hfar.wk]; exact h1.wk
    obtain ⟨a', hn | hn⟩ := e2 how
    · refine ⟨m, a', hand, N, O, ?_, rfl, restart_left _ _, r2⟩
      have hX : Next M1 m hand N O := ⟨h1.ok, h1.nw, h1.od, h1.tn, h1.told, h1.lg, h1.ris, h1.live, h1.few, h1.few', h1.rows, h1.trows⟩
      exact hX.inv hpg3 hn (by omega) hwr3 hbw3 hwk3
    · exact ⟨m', a', hand', N', O', hN.inv hpg3 hn (by omega) hwr3 hbw3 hwk3, hrow, restart_left _ _, r2⟩
end Go.Proofs.YtjeinblcpejpnabGreatDoor
