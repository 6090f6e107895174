/- FalB. -/
import Derived.Test.YthndopokabceiaaGreatDoorFalAJ
import Derived.Test.YthndopokabceiaaGreatDoorRstAJ
import Derived.Test.YthndopokabceiaaGreatDoorTopKJ

/- TopFall. -/
namespace Go.Proofs.YthndopokabceiaaGreatDoor
open Go.RowKit Go.WideShapes

/-- What is held beside a chip that the machine may fall on. -/
structure Held (w0 W : World) (S : List Nat) (cb rb : Nat) (ro : Option Addr) (R Q : List Ent) : Prop where
  ref : RefSt W S rb Q
  was : Aside2 W S ro R
  x : Ext w0 W
  far : ∀ b ∈ S, w0.heap.size ≤ b
  cS : cb ∈ S
  gl : GlobT w0
  lq : R.length ≤ 40 ∧ Q.length ≤ 40
theorem Held.kp {w0 W W' : World} {S : List Nat} {cb rb : Nat} {ro : Option Addr} {R Q : List Ent} (h : Held w0 W S cb rb ro R Q) (hK : Kp W W' S) : Held w0 W' S cb rb ro R Q :=
  ⟨h.ref.kp hK (fun _ hb => .inl hb), h.was.kp hK (fun _ hb => .inl hb), Kp.ext h.x hK h.far, h.far, h.cS, h.gl, h.lq⟩
theorem Held.ext {w0 W W' : World} {S : List Nat} {cb rb : Nat} {ro : Option Addr} {R Q : List Ent} (h : Held w0 W S cb rb ro R Q) (hx : Ext W W') : Held w0 W' S cb rb ro R Q := h.kp (Kp.ofExt hx S)
/-- An act has been done. -/
structure FalT (n : Nat) (w0 W : World) (S : List Nat) (cb rb : Nat) (ro : Option Addr) (R Q : List Ent) (v : Value) : Prop where
  ex : ∃ M', ChipAt W cb M' ∧ WrOk M' ∧ ((v = .nilIface ∧ FellOk n M' (· = Q)) ∨ (∃ f, v = .iface 110 (.int .i64 f) ∧ FellOk n M' (fun x => x = R ∨ x = Q)))
  held : Held w0 W S cb rb ro R Q
theorem UpF.act {n : Nat} {w0 W : World} {S : List Nat} {sb cb rb : Nat} {ro : Option Addr} {R : List Ent} {e : ActE} (h : UpF n W S sb cb R) (hn : n ≤ 80000) (hH : Held w0 W S cb rb ro R (doR R e)) (hnw : isWk e = false) (he : EntsAt w0 e.ao e.es) :
    Calls Tryz.prog 37 #[.pointer (some ⟨cb, 0, none⟩), .pointer (some ⟨sb, 0, none⟩), .agg #[.string e.kind, .string e.s, .int .i64 e.a, .int .i64 e.b, .slice e.ao e.es.length e.cap]] W fun r w' => ∃ v, r = .returned v ∧ FalT (n + 9) w0 w' S cb rb ro R (doR R e) v := by
  refine (do_fall n W S sb cb R e h hn hnw (Aside3.old he hH.x hH.far)).mono fun r w' hh => ?_
  obtain ⟨M', h1, h2, h3, h4⟩ := hh.ex
  rcases h4 with ⟨rfl, h4⟩ | ⟨f, rfl, h4⟩
  · exact ⟨_, rfl, ⟨M', h1, h3, .inl ⟨rfl, h4⟩⟩, hH.kp h2⟩
  · exact ⟨_, rfl, ⟨M', h1, h3, .inr ⟨f, rfl, h4⟩⟩, hH.kp h2⟩
/-- A chip behind a restart. -/
structure FalU (n : Nat) (w0 W : World) (S : List Nat) (cb rb : Nat) (ro : Option Addr) (R Q : List Ent) (P : List Ent → Prop) : Prop where
  ex : ∃ M m a hand N O, ChipAt W cb M ∧ Inv n M m a hand N O ∧ P (rowsE hand N O) ∧ M.left = -1
  held : Held w0 W S cb rb ro R Q
theorem fal_restart {n : Nat} {w0 W : World} {S : List Nat} {cb rb : Nat} {ro : Option Addr} {R Q : List Ent} {M' : CM} {P : List Ent → Prop} (how : Int) (h1 : ChipAt W cb M') (h2 : WrOk M') (h3 : FellOk n M' P) (hH : Held w0 W S cb rb ro R Q) :
    Calls Tryz.prog 45 #[.pointer (some ⟨cb, 0, none⟩), .int .i64 how] W fun e w' => e = .returned (.tuple #[]) ∧ FalU n w0 w' S cb rb ro R Q P := by
  refine (restart_any cb how M' W h1 h2).mono fun e w' hh => ⟨hh.1, ?_⟩
  obtain ⟨m, a, hand, N, O, q1, q2, q3, _⟩ := h3 how
  exact ⟨⟨_, m, a, hand, N, O, hh.2.1, q1, q2, q3⟩, hH.kp ((Kp.grown hh.2.2).mono (fun x hx => by simp at hx; subst hx; exact hH.cS))⟩
/-- A store that was opened behind it. -/
structure FalV (n : Nat) (w0 W : World) (S : List Nat) (tb cb rb : Nat) (ro : Option Addr) (R Q : List Ent) (P : List Ent → Prop) : Prop where
  ex : ∃ T M m a x N O, StoAt W T tb cb M m a x ∧ Inv n M m a (x.ns.map Nd.e) N O ∧ P (rowsE (x.ns.map Nd.e) N O) ∧ M.left = -1 ∧ ∀ b ∈ T, w0.heap.size ≤ b
  held : Held w0 W S cb rb ro R Q
theorem FalU.open {n : Nat} {w0 W : World} {S : List Nat} {cb rb : Nat} {ro : Option Addr} {R Q : List Ent} {P : List Ent → Prop} (h : FalU n w0 W S cb rb ro R Q P) :
    Calls Tryz.prog 20 #[.pointer (some ⟨cb, 0, none⟩)] W fun e w' => ∃ tb, e = .returned (.tuple #[.pointer (some ⟨tb, 0, none⟩), .nilIface]) ∧ FalV n w0 w' S tb cb rb ro R Q P := by
  obtain ⟨M, m, a, hand, N, O, h1, h2, h3, h4⟩ := h.ex
  have hgl := h.held.gl.lt
  have hcf := h.held.far cb h.held.cS
  have hz := h.held.x.size
  refine (open_any n W cb M m a hand N O h1 (h.held.gl.ext h.held.x) (by omega) h1.lt h2).mono fun e w' hh => ?_
  obtain ⟨tb, T, y, q0, q1, q2, q3, q4⟩ := hh.ex
  exact ⟨tb, q0, ⟨T, M, m, a, y, N, O, q1, by rw [q2]; exact h2, by rw [q2]; exact h3, h4, fun b hb => by rcases q4 b hb with h' | h' <;> omega⟩, h.held.ext q3⟩
theorem FalV.rows {n : Nat} {w0 W : World} {S : List Nat} {tb cb rb : Nat} {ro : Option Addr} {R Q : List Ent} {P : List Ent → Prop} (h : FalV n w0 W S tb cb rb ro R Q P) :
    Calls Tryz.prog 38 #[.pointer (some ⟨tb, 0, none⟩)] W fun e w' => ∃ X xo xc, e = .returned (.slice xo X.length xc) ∧ P X ∧ EntsAt w' xo X ∧ Held w0 w' S cb rb ro R Q := by
  obtain ⟨T, M, m, a, x, N, O, h1, h2, h3, _⟩ := h.ex
  refine (trows_any n W T tb cb M m a x N O h1 h2).mono fun e w' hh => ?_
  obtain ⟨v, rfl, hv⟩ := hh
  obtain ⟨xo, xc, rfl, q1, q2⟩ := hv.len
  exact ⟨_, xo, xc, rfl, h3, q1, h.held.ext q2⟩
theorem Held.cells {w0 W : World} {S : List Nat} {cb rb : Nat} {ro : Option Addr} {R Q : List Ent} (h : Held w0 W S cb rb ro R Q) : ∃ qo qc, W.cell? ⟨rb, 0, none⟩ = some (.slice qo Q.length qc) ∧ EntsAt W qo Q := by
  obtain ⟨qo, qc, q1, q2⟩ := h.ref.ex
  exact ⟨qo, qc, q1.cell 0, q2.at_⟩
/-- The fuse is set. -/
theorem Up.arm {n : Nat} {w0 W : World} {S : List Nat} {sb cb rb k : Nat} {m : Man} {ro : Option Addr} {R Q : List Ent} (h : Up n W S sb cb m k R) (hH : Held w0 W S cb rb ro R Q) (z : Int) (hz : z ≤ 1000) :
    Calls Tryz.prog 44 #[.pointer (some ⟨cb, 0, none⟩), .int .i64 z] W fun e w' => e = .returned (.tuple #[]) ∧ UpF n w' S sb cb R ∧ Held w0 w' S cb rb ro R Q := by
  obtain ⟨M, a, x, N, O, h1, h2, h3, _⟩ := h.ex
  refine (arm_any cb z M W h1.chip).mono fun e w' hh => ⟨hh.1, ?_, hH.kp ((Kp.grown hh.2.2).mono (fun x hx => by simp at hx; subst hx; exact hH.cS))⟩
  exact ⟨{ M with left := z }, m, a, x, N, O, h1.chg (Kp.grown hh.2.2) hh.2.1, h2.keep (fun _ _ => rfl) (fun _ _ => rfl) h2.nst.up rfl h2.bw h2.wr (Nat.le_refl _), h3, hz⟩
theorem act1 {w0 : World} {e : ActE} (h : ActOk w0 e) (W : World) (hx : Ext w0 W) : Calls Tryz.prog 18 #[.slice (some ⟨W.heap.size, 0, none⟩) 1 1, .int .i64 1] (W.alloc (.cells #[.string e.kind, .string e.s, .int .i64 e.a, .int .i64 e.b, .slice e.ao e.es.length e.cap] 41)) fun r w' => r = .returned (.bool (lightActs [e] 1)) ∧ (W.alloc (.cells #[.string e.kind, .string e.s, .int .i64 e.a, .int .i64 e.b, .slice e.ao e.es.length e.cap] 41)) = w' := by
  have hat : ActsAt (W.alloc (.cells #[.string e.kind, .string e.s, .int .i64 e.a, .int .i64 e.b, .slice e.ao e.es.length e.cap] 41)) (some ⟨W.heap.size, 0, none⟩) [e] := fun _ => by
    refine ⟨W.heap.size, 0, rfl, fun i e' he => ?_⟩
    have hb : Blk (W.alloc (.cells #[.string e.kind, .string e.s, .int .i64 e.a, .int .i64 e.b, .slice e.ao e.es.length e.cap] 41)) W.heap.size #[.string e.kind, .string e.s, .int .i64 e.a, .int .i64 e.b, .slice e.ao e.es.length e.cap] 41 := Blk.new _ _ _
    cases i with
    | zero => cases he; exact ⟨hb.cell 0, hb.cell 1, hb.cell 2, hb.cell 3, hb.cell 4, h.ext (hx.alloc _)⟩
    | succ i => simp at he
  exact (lightActs_any (some ⟨W.heap.size, 0, none⟩) 1 [e] 1 _ (by omega) (by simp) hat).mono fun _ _ hh => ⟨hh.1, hh.2.symm⟩
/-- The document's store is written. -/
theorem Held.rw {n k : Nat} {m : Man} {w0 W : World} {S : List Nat} {sb cb rb : Nat} {ro : Option Addr} {R : List Ent} (hH : Held w0 W S cb rb ro R R) (hU : Up n W S sb cb m k R) (hro : ∀ p, ro = some p → ¬ p.block = rb) (hrb : w0.heap.size ≤ rb) {eo : Option Addr} {ec : Nat} {l : List Ent} (hll : l.length ≤ 9223372036854775807) (hl : EntsAt w0 eo l) :
    Calls Tryz.prog 27 #[.pointer (some ⟨rb, 0, none⟩), .slice eo l.length ec] W fun r w' => (∃ v, r = .returned v) ∧ Held w0 w' S cb rb ro R (wrR R l) ∧ Up n w' S sb cb m k R := by
  refine (rWrite_any W S rb R eo ec l hH.ref hU.lt hU.plain.1 (by have := hU.few; omega) hll (hl.ext2 hH.x)).mono fun r w' hh => ⟨⟨_, hh.1⟩, ?_⟩
  have hK := hh.2.2
  refine ⟨⟨hh.2.1, ⟨hH.was.at_.kp hK (fun p e hm => by simp at hm; exact hro p e hm), fun p e => Nat.lt_of_lt_of_le (hH.was.lt p e) hK.size, hH.was.no⟩, Kp.ext hH.x hK (fun b hb => by simp at hb; subst hb; exact hrb), hH.far, hH.cS, hH.gl, hH.lq.1, ?_⟩, hU.kp hK (fun b hb hm => by simp at hm; subst hm; exact hH.ref.no hb) (fun hm => by simp at hm; exact hH.ref.gl hm)⟩
  unfold wrR
  split
  · rename_i hw; exact (writeF_ok hw).2.2.2.2.2
  · exact hH.lq.1
set_option maxRecDepth 20000 in
set_option maxHeartbeats 8000000 in
theorem topFall_any (ao : Option Addr) (cap : Nat) (acs : List ActE) (e : ActE) (fuse how : Int) (w : World) (hg : GlobT w) (hl : acs.length ≤ 9223372036854775807) (has : ActsAt w ao acs) (hok : ActOk w e) :
    Calls Tryz.prog 8 #[.slice ao acs.length cap, .agg #[.string e.kind, .string e.s, .int .i64 e.a, .int .i64 e.b, .slice e.ao e.es.length e.cap], .int .i64 fuse, .int .i64 how] w fun r w' => r = .returned (.bool true) ∧ Ext w w' := by
  obtain ⟨w0, hw0⟩ : ∃ w0, w0 = w.alloc (.cells #[.string e.kind, .string e.s, .int .i64 e.a, .int .i64 e.b, .slice e.ao e.es.length e.cap] 41) := ⟨_, rfl⟩
  have hx0 : Ext w w0 := by rw [hw0]; exact (Ext.refl w).alloc _
  have HB0 : Hid (∀ W, Ext w0 W → W.cell? ⟨w.heap.size, 0, none⟩ = some (.string e.kind) ∧ W.cell? ⟨w.heap.size, 1, none⟩ = some (.string e.s) ∧ W.cell? ⟨w.heap.size, 2, none⟩ = some (.int .i64 e.a) ∧ W.cell? ⟨w.heap.size, 3, none⟩ = some (.int .i64 e.b) ∧ W.cell? ⟨w.heap.size, 4, none⟩ = some (.slice e.ao e.es.length e.cap)) := fun W hx => by
    have hb : Blk w0 w.heap.size #[.string e.kind, .string e.s, .int .i64 e.a, .int .i64 e.b, .slice e.ao e.es.length e.cap] 41 := by rw [hw0]; exact Blk.new _ _ _
    exact ⟨(hb.ext hx).cell 0, (hb.ext hx).cell 1, (hb.ext hx).cell 2, (hb.ext hx).cell 3, (hb.ext hx).cell 4⟩
  have hg0 := hg.ext hx0
  have has0 := has.ext hx0
  have HW := worksH w0 hg0
  have HLA : Hid (∀ W, Ext w0 W → Calls Tryz.prog 18 #[.slice (some ⟨W.heap.size, 0, none⟩) 1 1, .int .i64 1] (W.alloc (.cells #[.string e.kind, .string e.s, .int .i64 e.a, .int .i64 e.b, .slice e.ao e.es.length e.cap] 41)) fun r w' => r = .returned (.bool (lightActs [e] 1)) ∧ (W.alloc (.cells #[.string e.kind, .string e.s, .int .i64 e.a, .int .i64 e.b, .slice e.ao e.es.length e.cap] 41)) = w') := fun W hx => act1 (hok.ext hx0) W hx
  cases hf : fillB acs with
  | false =>
    have HF := filledN ao cap acs w0 hl has0 hf
    clear has has0 hf hg hg0 hok
    go_enter Tryz.func8, Tryz.ntmps8
    go_upto_region 1 with fail
    rw [← hw0]
    clear hw0
    go_wp2_with (first
      | (go_at_call 35; refine HW.out.mono ?_; rintro r w1 ⟨rfl, hx1⟩)
      | (go_at_call 36; refine (HF.out _ hx1).mono ?_; rintro r w2 ⟨rfl, rfl⟩))
    go_ret
    exact ⟨rfl, hx0.trans hx1⟩
  | true =>
    have HF := filledY ao cap acs w0 hg0 hl has0 hf
    generalize weakN acs = k at *
    generalize fillR acs = R at *
    have HR := rowsH w0 800 k R
    cases hli : lightActs [e] 1 with
    | false =>
      rw [hli] at HLA
      clear has has0 hf hg hg0 hok hli
      go_enter Tryz.func8, Tryz.ntmps8
      go_upto_region 1 with fail
      rw [← hw0]
      clear hw0
      go_wp2_with (first
        | (go_at_call 35; refine HW.out.mono ?_; rintro r w1 ⟨rfl, hx1⟩)
        | (go_at_call 36; refine (HF.out _ hx1).mono ?_; rintro r w2 ⟨cb, sb, S, m, rfl, hU2, hx2, hS2⟩; obtain ⟨k0, k1, k2, k3, k4⟩ := HB0.out _ hx2)
        | (go_at_call 18; refine (HLA.out _ hx2).mono ?_; rintro r w3 ⟨rfl, rfl⟩))
      go_ret
      exact ⟨rfl, (hx0.trans hx2).alloc _⟩
    | true =>
      rw [hli] at HLA
      cases hwk : isWk e with
      | true =>
        have hkk : (e.kind.toList == [119, 101, 97, 107, 101, 110]) = true := hwk
        clear has has0 hf hg hg0 hok hli hwk
        go_enter Tryz.func8, Tryz.ntmps8
        go_upto_region 1 with fail
        rw [← hw0]
        clear hw0
        go_wp2_with (first
          | (go_at_call 35; refine HW.out.mono ?_; rintro r w1 ⟨rfl, hx1⟩)
          | (go_at_call 36; refine (HF.out _ hx1).mono ?_; rintro r w2 ⟨cb, sb, S, m, rfl, hU2, hx2, hS2⟩; obtain ⟨k0, k1, k2, k3, k4⟩ := HB0.out _ hx2)
          | (go_at_call 18; refine (HLA.out _ hx2).mono ?_; rintro r w3 ⟨rfl, rfl⟩; have k0' := ((Ext.refl _).alloc (.cells #[.string e.kind, .string e.s, .int .i64 e.a, .int .i64 e.b, .slice e.ao e.es.length e.cap] 41)).cell k0))
        go_ret
        exact ⟨rfl, (hx0.trans hx2).alloc _⟩
      | false =>
        have hkk : (e.kind.toList == [119, 101, 97, 107, 101, 110]) = false := hwk
        go_enter Tryz.func8, Tryz.ntmps8
        go_upto_region 1 with fail
        rw [← hw0]
        clear hw0
        clear has has0
        go_upto_region 9 with (first
          | (go_at_call 35; refine HW.out.mono ?_; rintro r w1 ⟨rfl, hx1⟩)
          | (go_at_call 36; refine (HF.out _ hx1).mono ?_; rintro r w2 ⟨cb, sb, S, m, rfl, hU2, hx2, hS2⟩; obtain ⟨k0, k1, k2, k3, k4⟩ := HB0.out _ hx2)
          | (go_at_call 18; refine (HLA.out _ hx2).mono ?_; rintro r w3 ⟨rfl, rfl⟩; have k0' := ((Ext.refl _).alloc (.cells #[.string e.kind, .string e.s, .int .i64 e.a, .int .i64 e.b, .slice e.ao e.es.length e.cap] 41)).cell k0; have hx3 := hx2.alloc (.cells #[.string e.kind, .string e.s, .int .i64 e.a, .int .i64 e.b, .slice e.ao e.es.length e.cap] 41); have hU3 := hU2.ext ((Ext.refl _).alloc (.cells #[.string e.kind, .string e.s, .int .i64 e.a, .int .i64 e.b, .slice e.ao e.es.length e.cap] 41)))
          | (go_at_call 38; refine (HR.out _ _ _ _ _ hx3 hU3).mono ?_; rintro r w4 ⟨ro, rc, rfl, hR4, hx4, hX4⟩))
        obtain ⟨w5, hw5⟩ : ∃ w5, w5 = w4.alloc (.cells #[.slice ro R.length rc] 39) := ⟨_, rfl⟩
        have hx45 : Ext w4 w5 := by rw [hw5]; exact (Ext.refl _).alloc _
        have hU5 := (hU3.ext hx4).ext hx45
        have hX5 := hX4.trans hx45
        have hrb : w0.heap.size ≤ w4.heap.size := hX4.size
        have hro : ∀ p, ro = some p → ¬ p.block = w4.heap.size := fun p hp => by have := hR4.lt p hp; omega
        have hcS : cb ∈ S := by obtain ⟨M, a, x, N, O, q, _⟩ := hU5.ex; exact q.cS.1
        have hH5 : Held w0 w5 S cb w4.heap.size ro R R := ⟨by rw [hw5]; exact RefSt.new w4 S (hU3.ext hx4).lt (hg0.ext hX4).lt ro rc R hR4, hR4.ext hx45, hX5, hS2, hcS, hg0, hU5.few, hU5.few⟩
        have HAR : Hid (∀ W z Q, z ≤ 1000 → Up 800 W S sb cb m k R → Held w0 W S cb w4.heap.size ro R Q → Calls Tryz.prog 44 #[.pointer (some ⟨cb, 0, none⟩), .int .i64 z] W fun r w' => r = .returned (.tuple #[]) ∧ UpF 800 w' S sb cb R ∧ Held w0 w' S cb w4.heap.size ro R Q) := fun W z Q hz hU hH => hU.arm hH z hz
        have HDO : Hid (∀ W, UpF 800 W S sb cb R → Held w0 W S cb w4.heap.size ro R (doR R e) → Calls Tryz.prog 37 #[.pointer (some ⟨cb, 0, none⟩), .pointer (some ⟨sb, 0, none⟩), .agg #[.string e.kind, .string e.s, .int .i64 e.a, .int .i64 e.b, .slice e.ao e.es.length e.cap]] W fun r w' => ∃ v, r = .returned v ∧ FalT (800 + 9) w0 w' S cb w4.heap.size ro R (doR R e) v) := fun W hF hH => hF.act (by omega) hH hwk (hok.ext hx0).ents
        have HSE : Hid (∀ W a1 a2 c1 c2 (X : List Ent), X.length ≤ 1000 → EntsAt W a1 X → EntsAt W a2 X → Calls Tryz.prog 34 #[.slice a1 X.length c1, .slice a2 X.length c2] W fun r w' => r = .returned (.bool true) ∧ Ext W w') := fun W a1 a2 c1 c2 X hx h1 h2 => (sameEntries_eq a1 a2 c1 c2 X W (by omega) h1 h2).mono fun _ _ h => by
          obtain ⟨h1, q, rfl⟩ := h
          exact ⟨h1, (Ext.refl _).drewN q⟩
        have HOK : Hid (e.es.length ≤ 9223372036854775807 ∧ EntsAt w0 e.ao e.es) := ⟨hok.len, (hok.ext hx0).ents⟩
        rw [← hw5]
        clear hw5 HF HW HLA HR hf hli hok hg hg0 hU2 hU3 hR4 hx45 hX4 hx4 hx3 hx2 hx1 hwk hcS hX5
        obtain ⟨k0, k1, k2, k3, k4⟩ := HB0.out _ hH5.x
        by_cases hkw : (e.kind.toList == [119, 114, 105, 116, 101]) = true
        · have hd : doR R e = wrR R e.es := by unfold doR isWr; rw [if_pos hkw]
          have HRW : Hid (Calls Tryz.prog 27 #[.pointer (some ⟨w4.heap.size, 0, none⟩), .slice e.ao e.es.length e.cap] w5 fun r w' => (∃ v, r = .returned v) ∧ Held w0 w' S cb w4.heap.size ro R (doR R e) ∧ Up 800 w' S sb cb m k R) := by
            rw [Hid, hd]
            exact hH5.rw hU5 hro hrb HOK.out.1 HOK.out.2
          clear hd hU5 hH5 HOK
          go_upto_region 11 with (go_at_call 27; refine HRW.out.mono ?_; rintro r w5b ⟨⟨vb, rfl⟩, hHb, hUb⟩)
          clear hkw
          go_upto_region 13 with (first
            | (go_at_call 44; refine (HAR.out _ _ _ (by omega) hUb hHb).mono ?_; rintro r w6 ⟨rfl, hF6, hH6⟩; obtain ⟨n0, n1, n2, n3, n4⟩ := HB0.out _ hH6.x)
            | (go_at_call 37; refine (HDO.out _ hF6 hH6).mono ?_; rintro r w7 ⟨v, rfl, hT7⟩))
          obtain ⟨⟨M', hc7, hw7, hv⟩, hH7⟩ := hT7
          clear HAR HDO hF6 hH6
          generalize doR R e = Q at *
          rcases hv with ⟨rfl, hP⟩ | ⟨f, rfl, hP⟩
          · go_upto_region 18 with (first
              | (go_at_call 45; refine (fal_restart how hc7 hw7 hP hH7).mono ?_; rintro r w8 ⟨rfl, hU8⟩)
              | (go_at_call 20; refine hU8.open.mono ?_; rintro r w9 ⟨tb, rfl, hV9⟩)
              | (go_at_call 38; refine hV9.rows.mono ?_; rintro r w10 ⟨X, xo, xc, rfl, hX, hE10, hH10⟩))
            obtain rfl : X = Q := hX
            obtain ⟨qo, qc, q1, q2⟩ := hH10.cells
            have hxl : X.length ≤ 1000 := by have := hH10.lq.2; omega
            clear hV9 hU8 hP hc7 hw7 hH7
            go_wp2_with (go_at_call 34; refine (HSE.out _ _ _ _ _ _ hxl hE10 q2).mono ?_; rintro r w11 ⟨rfl, hx11⟩)
            go_ret
            exact ⟨rfl, hx0.trans (hH10.x.trans hx11)⟩
          · go_upto_region 18 with (first
              | (go_at_call 45; refine (fal_restart how hc7 hw7 hP hH7).mono ?_; rintro r w8 ⟨rfl, hU8⟩)
              | (go_at_call 20; refine hU8.open.mono ?_; rintro r w9 ⟨tb, rfl, hV9⟩)
              | (go_at_call 38; refine hV9.rows.mono ?_; rintro r w10 ⟨X, xo, xc, rfl, hX, hE10, hH10⟩))
            obtain ⟨qo, qc, q1, q2⟩ := hH10.cells
            have hra := hH10.was.at_
            clear hV9 hU8 hP hc7 hw7 hH7
            rcases hX with rfl | rfl
            · have hxl : X.length ≤ 1000 := by have := hH10.lq.1; omega
              go_wp2_with (go_at_call 34; refine (HSE.out _ _ _ _ _ _ hxl hE10 hra).mono ?_; rintro r w11 ⟨rfl, hx11⟩)
              go_ret
              exact ⟨rfl, hx0.trans (hH10.x.trans hx11)⟩
            · have hxl : X.length ≤ 1000 := by have := hH10.lq.2; omega
              have HQ : Hid (∀ W, Ext w10 W → W.cell? ⟨w4.heap.size, 0, none⟩ = some (.slice qo X.length qc) ∧ EntsAt W qo X) := fun W hx => ⟨hx.cell q1, q2.ext2 hx⟩
              go_upto_region 20 with fail
              have HS1 : Hid (Calls Tryz.prog 34 #[.slice xo X.length xc, .slice ro R.length rc] w10 fun r w' => ∃ b, r = .returned (.bool b) ∧ Ext w10 w') := sameE_some xo ro xc rc X R w10 hxl hE10 hra
              have HE10 : Hid (EntsAt w10 xo X) := hE10
              clear hra q1 q2 hE10
              go_wp2_with (first
                | (go_at_call 34; refine (HSE.out _ _ _ _ _ _ hxl (HE10.out.ext2 hx11) (HQ.out _ hx11).2).mono ?_; rintro r w12 ⟨rfl, hx12⟩)
                | (go_at_call 34; refine HS1.out.mono ?_; rintro r w11 ⟨(_ | _), rfl, hx11⟩ <;> have q1 := (HQ.out _ hx11).1))
              · go_ret
                exact ⟨rfl, hx0.trans (hH10.x.trans (hx11.trans hx12))⟩
              · go_ret
                exact ⟨rfl, hx0.trans (hH10.x.trans hx11)⟩
        · have hkw' : (e.kind.toList == [119, 114, 105, 116, 101]) = false := by simpa using hkw
          have hd : doR R e = R := by unfold doR isWr; rw [if_neg hkw]
          have hHb : Held w0 w5 S cb w4.heap.size ro R (doR R e) := by rw [hd]; exact hH5
          have hUb := hU5
          clear hd hU5 hH5 HOK hkw
          go_upto_region 11 with fail
          clear hkw'
          go_upto_region 13 with (first
            | (go_at_call 44; refine (HAR.out _ _ _ (by omega) hUb hHb).mono ?_; rintro r w6 ⟨rfl, hF6, hH6⟩; obtain ⟨n0, n1, n2, n3, n4⟩ := HB0.out _ hH6.x)
            | (go_at_call 37; refine (HDO.out _ hF6 hH6).mono ?_; rintro r w7 ⟨v, rfl, hT7⟩))
          obtain ⟨⟨M', hc7, hw7, hv⟩, hH7⟩ := hT7
          clear HAR HDO hF6 hH6
          generalize doR R e = Q at *
          rcases hv with ⟨rfl, hP⟩ | ⟨f, rfl, hP⟩
          · go_upto_region 18 with (first
              | (go_at_call 45; refine (fal_restart how hc7 hw7 hP hH7).mono ?_; rintro r w8 ⟨rfl, hU8⟩)
              | (go_at_call 20; refine hU8.open.mono ?_; rintro r w9 ⟨tb, rfl, hV9⟩)
              | (go_at_call 38; refine hV9.rows.mono ?_; rintro r w10 ⟨X, xo, xc, rfl, hX, hE10, hH10⟩))
            obtain rfl : X = Q := hX
            obtain ⟨qo, qc, q1, q2⟩ := hH10.cells
            have hxl : X.length ≤ 1000 := by have := hH10.lq.2; omega
            clear hV9 hU8 hP hc7 hw7 hH7
            go_wp2_with (go_at_call 34; refine (HSE.out _ _ _ _ _ _ hxl hE10 q2).mono ?_; rintro r w11 ⟨rfl, hx11⟩)
            go_ret
            exact ⟨rfl, hx0.trans (hH10.x.trans hx11)⟩
          · go_upto_region 18 with (first
              | (go_at_call 45; refine (fal_restart how hc7 hw7 hP hH7).mono ?_; rintro r w8 ⟨rfl, hU8⟩)
              | (go_at_call 20; refine hU8.open.mono ?_; rintro r w9 ⟨tb, rfl, hV9⟩)
              | (go_at_call 38; refine hV9.rows.mono ?_; rintro r w10 ⟨X, xo, xc, rfl, hX, hE10, hH10⟩))
            obtain ⟨qo, qc, q1, q2⟩ := hH10.cells
            have hra := hH10.was.at_
            clear hV9 hU8 hP hc7 hw7 hH7
            rcases hX with rfl | rfl
            · have hxl : X.length ≤ 1000 := by have := hH10.lq.1; omega
              go_wp2_with (go_at_call 34; refine (HSE.out _ _ _ _ _ _ hxl hE10 hra).mono ?_; rintro r w11 ⟨rfl, hx11⟩)
              go_ret
              exact ⟨rfl, hx0.trans (hH10.x.trans hx11)⟩
            · have hxl : X.length ≤ 1000 := by have := hH10.lq.2; omega
              have HQ : Hid (∀ W, Ext w10 W → W.cell? ⟨w4.heap.size, 0, none⟩ = some (.slice qo X.length qc) ∧ EntsAt W qo X) := fun W hx => ⟨hx.cell q1, q2.ext2 hx⟩
              go_upto_region 20 with fail
              have HS1 : Hid (Calls Tryz.prog 34 #[.slice xo X.length xc, .slice ro R.length rc] w10 fun r w' => ∃ b, r = .returned (.bool b) ∧ Ext w10 w') := sameE_some xo ro xc rc X R w10 hxl hE10 hra
              have HE10 : Hid (EntsAt w10 xo X) := hE10
              clear hra q1 q2 hE10
              go_wp2_with (first
                | (go_at_call 34; refine (HSE.out _ _ _ _ _ _ hxl (HE10.out.ext2 hx11) (HQ.out _ hx11).2).mono ?_; rintro r w12 ⟨rfl, hx12⟩)
                | (go_at_call 34; refine HS1.out.mono ?_; rintro r w11 ⟨(_ | _), rfl, hx11⟩ <;> have q1 := (HQ.out _ hx11).1))
              · go_ret
                exact ⟨rfl, hx0.trans (hH10.x.trans (hx11.trans hx12))⟩
              · go_ret
                exact ⟨rfl, hx0.trans (hH10.x.trans hx11)⟩
end Go.Proofs.YthndopokabceiaaGreatDoor
