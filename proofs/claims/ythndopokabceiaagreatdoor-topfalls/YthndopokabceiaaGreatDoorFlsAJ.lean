/- FlsA. -/
import Derived.Test.YthndopokabceiaaGreatDoorFalBJ

/- Falls of power, one behind the other. -/
namespace Go.Proofs.YthndopokabceiaaGreatDoor
open Go.RowKit Go.WideShapes

/-- A store, its fuse, its weak blocks. -/
structure UpG (n : Nat) (w : World) (S : List Nat) (sb cb k : Nat) (l : Int) (R : List Ent) : Prop where
  ex : ∃ M m a x N O, StoAt w S sb cb M m a x ∧ Inv n M m a (x.ns.map Nd.e) N O ∧ rowsE (x.ns.map Nd.e) N O = R ∧ M.left = l ∧ l ≤ 1000 ∧ wkN M.wk ≤ k
theorem UpG.ext {n : Nat} {w w' : World} {S : List Nat} {sb cb k : Nat} {l : Int} {R : List Ent} (h : UpG n w S sb cb k l R) (hx : Ext w w') : UpG n w' S sb cb k l R := by
  obtain ⟨M, m, a, x, N, O, h1, h2⟩ := h.ex
  exact ⟨M, m, a, x, N, O, h1.ext hx, h2⟩
/-- An act has been done, or the machine fell. -/
structure FalG (n : Nat) (w w' : World) (S : List Nat) (cb k : Nat) (R R' : List Ent) (r : Ending) : Prop where
  ex : ∃ M', ChipAt w' cb M' ∧ Kp w w' S ∧ WrOk M' ∧ wkN M'.wk ≤ k ∧ ((r = .returned .nilIface ∧ FellOk n M' (· = R')) ∨ (∃ f, r = .returned (.iface 110 (.int .i64 f)) ∧ FellOk n M' (fun x => x = R ∨ x = R')))
theorem FalG.from {n : Nat} {w w1 w' : World} {S : List Nat} {cb k : Nat} {R R' : List Ent} {r : Ending} (h : FalG n w1 w' S cb k R R' r) (hx : Ext w w1) : FalG n w w' S cb k R R' r := by
  obtain ⟨M', h1, h2, h3⟩ := h.ex
  exact ⟨M', h1, (Kp.ofExt hx S).trans h2, h3⟩
theorem FalG.le {n : Nat} {w w' : World} {S : List Nat} {cb k k' : Nat} {R R' : List Ent} {r : Ending} (h : FalG n w w' S cb k R R' r) (hk : k ≤ k') : FalG n w w' S cb k' R R' r := by
  obtain ⟨M', h1, h2, h3, h4, h5⟩ := h.ex
  exact ⟨M', h1, h2, h3, by omega, h5⟩
theorem FalG.val {n : Nat} {w w' : World} {S : List Nat} {cb k : Nat} {R R' : List Ent} {r : Ending} (h : FalG n w w' S cb k R R' r) : ∃ v, r = .returned v ∧ FalG n w w' S cb k R R' r := by
  obtain ⟨M', _, _, _, _, h1⟩ := h.ex
  rcases h1 with h1 | ⟨f, h1⟩
  · exact ⟨_, h1.1, h⟩
  · exact ⟨_, h1.1, h⟩
theorem OpEnd.falG {n : Nat} {w w' : World} {S : List Nat} {sb cb k : Nat} {M : CM} {R R' : List Ent} {P Pf : List Ent → Prop} {Q : CM → Man → List Ent → List Tb → Prop} {e : Ending} (h : OpEnd n w w' S sb cb M P Pf Q e) (hn : n ≤ 90000) (hk : wkN M.wk ≤ k) (h1 : ∀ r, P r → r = R') (h2 : ∀ r, Pf r → r = R ∨ r = R') : FalG n w w' S cb k R R' e := by
  cases h with
  | ok M' m' a' x' S' N' O' he hs hi hr hl' hq hw hk' hS hQ => exact ⟨M', hs.chip, hk', hi.wrOk hn, by rw [hw]; exact hk, .inl ⟨he, hi.fellOk (h1 _ hr)⟩⟩
  | fell M' he hl hc hw hf hk' =>
    refine ⟨M', hc, hk', hf.wrOk hn, by rw [hw]; exact hk, .inr ⟨9, he, fun how => ?_⟩⟩
    obtain ⟨m, a, hand, N, O, q1, q2, q3⟩ := hf how
    exact ⟨m, a, hand, N, O, q1, h2 _ q2, q3⟩
section
variable {n : Nat} {w : World} {S : List Nat} {sb cb k : Nat} {l : Int} {R : List Ent}
theorem UpG.still (h : UpG n w S sb cb k l R) (hn : n ≤ 80000) : FalG (n + 9) w w S cb k R R (.returned .nilIface) := by
  obtain ⟨M, m, a, x, N, O, h1, h2, h3, h4, h5, h6⟩ := h.ex
  exact ⟨M, h1.chip, Kp.refl _ _, h2.wrOk (by omega), h6, .inl ⟨rfl, (h2.up' (by omega)).fellOk h3⟩⟩
theorem UpG.flush (h : UpG n w S sb cb k l R) (hn : n ≤ 80000) : Calls Tryz.prog 28 #[.pointer (some ⟨sb, 0, none⟩)] w fun e w' => FalG (n + 9) w w' S cb k R R e := by
  obtain ⟨M, m, a, x, N, O, h1, h2, h3, h4, h5, h6⟩ := h.ex
  have := flush_any n w S sb cb M m a x N O h1 h2 (by omega) hn
  rw [h3] at this
  exact this.mono fun _ _ hO => hO.falG (by omega) h6 (fun _ h => h) (fun _ h => .inl h)
theorem UpG.compact (h : UpG n w S sb cb k l R) (hn : n ≤ 80000) : Calls Tryz.prog 29 #[.pointer (some ⟨sb, 0, none⟩)] w fun e w' => FalG (n + 9) w w' S cb k R R e := by
  obtain ⟨M, m, a, x, N, O, h1, h2, h3, h4, h5, h6⟩ := h.ex
  have := compact_any n w S sb cb M m a x N O h1 h2 (by omega) (by omega)
  rw [h3] at this
  exact this.mono fun _ _ hO => (hO.le (show n + 3 ≤ n + 9 by omega)).falG (by omega) h6 (fun _ h => h) (fun _ h => .inl h)
theorem UpG.wr (h : UpG n w S sb cb k l R) (hn : n ≤ 80000) {ao : Option Addr} {cap : Nat} {es : List Ent} (hl : Aside3 w S ao es) : Calls Tryz.prog 26 #[.pointer (some ⟨sb, 0, none⟩), .slice ao es.length cap] w fun e w' => FalG (n + 9) w w' S cb k R (wrR R es) e := by
  obtain ⟨M, m, a, x, N, O, h1, h2, h3, h4, h5, h6⟩ := h.ex
  have hbad : ∀ f e w', e = .returned (.iface 110 (.int .i64 f)) → Ext w w' → FalG (n + 9) w w' S cb k R (wrR R es) e := fun f e w' he hx => by
    exact ⟨M, h1.chip.ext hx, Kp.ofExt hx S, h2.wrOk (by omega), h6, .inr ⟨f, he, (h2.up' (by omega)).fellOk (.inl h3)⟩⟩
  rcases hl.ex with rfl | hl
  · refine (write_nil w S sb cb M m a x ao cap h1 (by unfold downB; rw [h2.nst.up]; rfl)).mono fun e w' hh => ?_
    exact hbad 2 e w' hh.1 (by rw [hh.2]; exact Ext.refl _)
  · by_cases hw : writeF R es = 0
    · have := swrite_any n w S sb cb M m a x N O ao cap es h1 h2 (by omega) hn hl (by rw [h3]; exact hw)
      rw [h3] at this
      have hr : wrR R es = afterE R es := by unfold wrR; rw [if_pos hw]
      rw [hr]
      exact this.mono fun _ _ hO => hO.falG (by omega) h6 (fun _ h => h) (fun _ h => h)
    · have := swrite_bad n w S sb cb M m a x N O ao cap es h1 h2 hl.at_ hl.lt (by rw [h3]; exact hw)
      rw [h3] at this
      exact this.mono fun e w' hh => hbad _ e w' hh.1 hh.2
theorem UpG.weaken (h : UpG n w S sb cb k l R) (hn : n ≤ 80000) (hk : k + 1 ≤ 6) (b : Int) : Calls Tryz.prog 30 #[.pointer (some ⟨cb, 0, none⟩), .int .i64 b] w fun e w' => (∃ v, e = .returned v) ∧ FalG (n + 9) w w' S cb (k + 1) R R (.returned .nilIface) := by
  obtain ⟨M, m, a, x, N, O, h1, h2, h3, h4, h5, h6⟩ := h.ex
  refine (weaken_any cb b M w h1.chip).mono ?_
  rintro e w' ⟨rfl, hc, hg⟩
  have hw := weaken_wk M b
  have hi := h2.weaken b (by omega)
  exact ⟨⟨_, rfl⟩, ⟨weakenM M b, hc, (Kp.grown hg).mono (by simpa using h1.cS.1), hi.wrOk (by omega), by omega, .inl ⟨rfl, (hi.up' (by omega)).fellOk h3⟩⟩⟩
end
set_option maxRecDepth 20000 in
set_option maxHeartbeats 2000000 in
theorem do_falls (n : Nat) (w : World) (S : List Nat) (sb cb k : Nat) (l : Int) (R : List Ent) (e : ActE) (h : UpG n w S sb cb k l R) (hn : n ≤ 80000) (hk : k + wk1 e ≤ 6) (hl : Aside3 w S e.ao e.es) :
    Calls Tryz.prog 37 #[.pointer (some ⟨cb, 0, none⟩), .pointer (some ⟨sb, 0, none⟩), .agg #[.string e.kind, .string e.s, .int .i64 e.a, .int .i64 e.b, .slice e.ao e.es.length e.cap]] w fun r w' => FalG (n + 9) w w' S cb (k + wk1 e) R (doR R e) r := by
  have hx : Ext w (w.alloc (Obj.cells #[.string e.kind, .string e.s, .int .i64 e.a, .int .i64 e.b, .slice e.ao e.es.length e.cap] 41)) := (Ext.refl _).alloc _
  have hU := h.ext hx
  have hA := hl.ext hx
  by_cases hkw : (e.kind.toList == [119, 114, 105, 116, 101]) = true
  · have hd : doR R e = wrR R e.es := by unfold doR isWr; rw [if_pos hkw]
    have HR : Hid (∀ W, W = (w.alloc (Obj.cells #[.string e.kind, .string e.s, .int .i64 e.a, .int .i64 e.b, .slice e.ao e.es.length e.cap] 41)) → Calls Tryz.prog 26 #[.pointer (some ⟨sb, 0, none⟩), .slice e.ao e.es.length e.cap] W fun r w' => ∃ v, r = .returned v ∧ FalG (n + 9) w w' S cb (k + wk1 e) R (doR R e) r) := fun W hW => by
      subst hW
      refine (hU.wr hn hA).mono fun r w' hh => ?_
      rw [hd]
      exact ((hh.from hx).le (by omega)).val
    clear hU hA h hl hx hk
    go_enter Tryz.func37, Tryz.ntmps37
    go_wp2_with (go_at_call 26; refine (HR.out _ rfl).mono ?_; rintro r w1 ⟨v, rfl, hE1⟩)
    go_ret
    exact hE1
  · have hd : doR R e = R := by unfold doR isWr; rw [if_neg hkw]
    have hkw' : (e.kind.toList == [119, 114, 105, 116, 101]) = false := by simpa using hkw
    clear hkw
    by_cases hkf : (e.kind.toList == [102, 108, 117, 115, 104]) = true
    · have HR : Hid (∀ W, W = (w.alloc (Obj.cells #[.string e.kind, .string e.s, .int .i64 e.a, .int .i64 e.b, .slice e.ao e.es.length e.cap] 41)) → Calls Tryz.prog 28 #[.pointer (some ⟨sb, 0, none⟩)] W fun r w' => ∃ v, r = .returned v ∧ FalG (n + 9) w w' S cb (k + wk1 e) R (doR R e) r) := fun W hW => by
        subst hW
        refine (hU.flush hn).mono fun r w' hh => ?_
        rw [hd]
        exact ((hh.from hx).le (by omega)).val
      clear hU hA h hl hx hk
      go_enter Tryz.func37, Tryz.ntmps37
      go_wp2_with (go_at_call 28; refine (HR.out _ rfl).mono ?_; rintro r w1 ⟨v, rfl, hE1⟩)
      go_ret
      exact hE1
    · have hkf' : (e.kind.toList == [102, 108, 117, 115, 104]) = false := by simpa using hkf
      clear hkf
      by_cases hkc : (e.kind.toList == [99, 111, 109, 112, 97, 99, 116]) = true
      · have HR : Hid (∀ W, W = (w.alloc (Obj.cells #[.string e.kind, .string e.s, .int .i64 e.a, .int .i64 e.b, .slice e.ao e.es.length e.cap] 41)) → Calls Tryz.prog 29 #[.pointer (some ⟨sb, 0, none⟩)] W fun r w' => ∃ v, r = .returned v ∧ FalG (n + 9) w w' S cb (k + wk1 e) R (doR R e) r) := fun W hW => by
          subst hW
          refine (hU.compact hn).mono fun r w' hh => ?_
          rw [hd]
          exact ((hh.from hx).le (by omega)).val
        clear hU hA h hl hx hk
        go_enter Tryz.func37, Tryz.ntmps37
        go_wp2_with (go_at_call 29; refine (HR.out _ rfl).mono ?_; rintro r w1 ⟨v, rfl, hE1⟩)
        go_ret
        exact hE1
      · have hkc' : (e.kind.toList == [99, 111, 109, 112, 97, 99, 116]) = false := by simpa using hkc
        clear hkc
        by_cases hkk : (e.kind.toList == [119, 101, 97, 107, 101, 110]) = true
        · have hwk : wk1 e = 1 := by unfold wk1 isWk; rw [if_pos hkk]
          have HR : Hid (∀ W, W = (w.alloc (Obj.cells #[.string e.kind, .string e.s, .int .i64 e.a, .int .i64 e.b, .slice e.ao e.es.length e.cap] 41)) → Calls Tryz.prog 30 #[.pointer (some ⟨cb, 0, none⟩), .int .i64 e.a] W fun r w' => (∃ v, r = .returned v) ∧ FalG (n + 9) w w' S cb (k + wk1 e) R (doR R e) (.returned .nilIface)) := fun W hW => by
            subst hW
            refine (hU.weaken hn (by omega) e.a).mono fun r w' hh => ⟨hh.1, ?_⟩
            rw [hd, hwk]
            exact hh.2.from hx
          clear hU hA h hl hx hk
          go_enter Tryz.func37, Tryz.ntmps37
          go_wp2_with (go_at_call 30; refine (HR.out _ rfl).mono ?_; rintro r w1 ⟨⟨v, rfl⟩, hE1⟩)
          go_ret
          exact hE1
        · have hkk' : (e.kind.toList == [119, 101, 97, 107, 101, 110]) = false := by simpa using hkk
          have HE : Hid (FalG (n + 9) w (w.alloc (Obj.cells #[.string e.kind, .string e.s, .int .i64 e.a, .int .i64 e.b, .slice e.ao e.es.length e.cap] 41)) S cb (k + wk1 e) R (doR R e) (.returned .nilIface)) := by
            rw [Hid, hd]; exact ((hU.still hn).from hx).le (by omega)
          clear hU hA h hl hx hkk hk
          go_enter Tryz.func37, Tryz.ntmps37
          go_wp2
          go_ret
          exact HE.out
/-- An act has been done. -/
structure FlT (n : Nat) (w0 W : World) (S : List Nat) (cb k rb : Nat) (ro : Option Addr) (R Q : List Ent) (v : Value) : Prop where
  ex : ∃ M', ChipAt W cb M' ∧ WrOk M' ∧ wkN M'.wk ≤ k ∧ ((v = .nilIface ∧ FellOk n M' (· = Q)) ∨ (∃ f, v = .iface 110 (.int .i64 f) ∧ FellOk n M' (fun x => x = R ∨ x = Q)))
  held : Held w0 W S cb rb ro R Q
theorem UpG.act {n : Nat} {w0 W : World} {S : List Nat} {sb cb k rb : Nat} {l : Int} {ro : Option Addr} {R : List Ent} {e : ActE} (h : UpG n W S sb cb k l R) (hn : n ≤ 80000) (hk : k + wk1 e ≤ 6) (hH : Held w0 W S cb rb ro R (doR R e)) (he : EntsAt w0 e.ao e.es) :
    Calls Tryz.prog 37 #[.pointer (some ⟨cb, 0, none⟩), .pointer (some ⟨sb, 0, none⟩), .agg #[.string e.kind, .string e.s, .int .i64 e.a, .int .i64 e.b, .slice e.ao e.es.length e.cap]] W fun r w' => ∃ v, r = .returned v ∧ FlT (n + 9) w0 w' S cb (k + wk1 e) rb ro R (doR R e) v := by
  refine (do_falls n W S sb cb k l R e h hn hk (Aside3.old he hH.x hH.far)).mono fun r w' hh => ?_
  obtain ⟨M', h1, h2, h3, h5, h4⟩ := hh.ex
  rcases h4 with ⟨rfl, h4⟩ | ⟨f, rfl, h4⟩
  · exact ⟨_, rfl, ⟨M', h1, h3, h5, .inl ⟨rfl, h4⟩⟩, hH.kp h2⟩
  · exact ⟨_, rfl, ⟨M', h1, h3, h5, .inr ⟨f, rfl, h4⟩⟩, hH.kp h2⟩
structure FlU (n : Nat) (w0 W : World) (S : List Nat) (cb k rb : Nat) (ro : Option Addr) (R Q : List Ent) (P : List Ent → Prop) : Prop where
  ex : ∃ M m a hand N O, ChipAt W cb M ∧ Inv n M m a hand N O ∧ P (rowsE hand N O) ∧ M.left = -1 ∧ wkN M.wk ≤ k
  held : Held w0 W S cb rb ro R Q
theorem fl_restart {n : Nat} {w0 W : World} {S : List Nat} {cb k rb : Nat} {ro : Option Addr} {R Q : List Ent} {M' : CM} {P : List Ent → Prop} (how : Int) (h1 : ChipAt W cb M') (h2 : WrOk M') (hk : wkN M'.wk ≤ k) (h3 : FellOk n M' P) (hH : Held w0 W S cb rb ro R Q) :
    Calls Tryz.prog 45 #[.pointer (some ⟨cb, 0, none⟩), .int .i64 how] W fun e w' => e = .returned (.tuple #[]) ∧ FlU n w0 w' S cb k rb ro R Q P := by
  refine (restart_any cb how M' W h1 h2).mono fun e w' hh => ⟨hh.1, ?_⟩
  obtain ⟨m, a, hand, N, O, q1, q2, q3, q4⟩ := h3 how
  exact ⟨⟨_, m, a, hand, N, O, hh.2.1, q1, q2, q3, by rw [q4]; exact hk⟩, hH.kp ((Kp.grown hh.2.2).mono (fun x hx => by simp at hx; subst hx; exact hH.cS))⟩
structure FlV (n : Nat) (w0 W : World) (S : List Nat) (tb cb k rb : Nat) (ro : Option Addr) (R Q : List Ent) (P : List Ent → Prop) : Prop where
  ex : ∃ T X, UpG n W T tb cb k (-1) X ∧ P X ∧ ∀ b ∈ T, w0.heap.size ≤ b
  held : Held w0 W S cb rb ro R Q
theorem FlU.open {n : Nat} {w0 W : World} {S : List Nat} {cb k rb : Nat} {ro : Option Addr} {R Q : List Ent} {P : List Ent → Prop} (h : FlU n w0 W S cb k rb ro R Q P) :
    Calls Tryz.prog 20 #[.pointer (some ⟨cb, 0, none⟩)] W fun e w' => ∃ tb, e = .returned (.tuple #[.pointer (some ⟨tb, 0, none⟩), .nilIface]) ∧ FlV n w0 w' S tb cb k rb ro R Q P := by
  obtain ⟨M, m, a, hand, N, O, h1, h2, h3, h4, h5⟩ := h.ex
  have hgl := h.held.gl.lt
  have hcf := h.held.far cb h.held.cS
  have hz := h.held.x.size
  refine (open_any n W cb M m a hand N O h1 (h.held.gl.ext h.held.x) (by omega) h1.lt h2).mono fun e w' hh => ?_
  obtain ⟨tb, T, y, q0, q1, q2, q3, q4⟩ := hh.ex
  exact ⟨tb, q0, ⟨T, rowsE hand N O, ⟨M, m, a, y, N, O, q1, by rw [q2]; exact h2, by rw [q2], h4, by omega, h5⟩, h3, fun b hb => by rcases q4 b hb with h' | h' <;> omega⟩, h.held.ext q3⟩
/-- Between two falls. -/
structure FlsAt (w wr : World) (sb cb n k : Nat) : Prop where
  ex : ∃ S R, UpG n wr S sb cb k (-1) R ∧ Ext w wr ∧ ∀ b ∈ S, w.heap.size ≤ b
theorem UpG.few {n : Nat} {w : World} {S : List Nat} {sb cb k : Nat} {l : Int} {R : List Ent} (h : UpG n w S sb cb k l R) : R.length ≤ 40 ∧ Ris R ∧ (∀ b ∈ S, b < w.heap.size) ∧ cb ∈ S := by
  obtain ⟨M, m, a, x, N, O, h1, h2, h3, _⟩ := h.ex
  subst h3
  exact ⟨h2.rows, rowsE_ris _ _ _, h1.lt, h1.cS.1⟩
theorem UpG.rows {n : Nat} {w : World} {S : List Nat} {sb cb k : Nat} {l : Int} {R : List Ent} (h : UpG n w S sb cb k l R) :
    Calls Tryz.prog 38 #[.pointer (some ⟨sb, 0, none⟩)] w fun e w' => ∃ ro rc, e = .returned (.slice ro R.length rc) ∧ Aside2 w' S ro R ∧ Ext w w' := by
  obtain ⟨M, m, a, x, N, O, h1, h2, h3, _⟩ := h.ex
  have := trows_any n w S sb cb M m a x N O h1 h2
  rw [h3] at this
  refine this.mono fun e w' hh => ?_
  obtain ⟨v, rfl, hv⟩ := hh
  obtain ⟨ro, rc, rfl, q1, q2⟩ := hv.aside h1.lt
  exact ⟨ro, rc, rfl, q1, q2⟩
theorem FlV.rows {n : Nat} {w0 W : World} {S : List Nat} {tb cb k rb : Nat} {ro : Option Addr} {R Q : List Ent} {P : List Ent → Prop} (h : FlV n w0 W S tb cb k rb ro R Q P) :
    Calls Tryz.prog 38 #[.pointer (some ⟨tb, 0, none⟩)] W fun e w' => ∃ X xo xc, e = .returned (.slice xo X.length xc) ∧ P X ∧ EntsAt w' xo X ∧ Held w0 w' S cb rb ro R Q ∧ FlsAt w0 w' tb cb n k := by
  obtain ⟨T, X, h1, h2, h3⟩ := h.ex
  refine h1.rows.mono fun e w' hh => ?_
  obtain ⟨xo, xc, rfl, q1, q2⟩ := hh
  exact ⟨X, xo, xc, rfl, h2, q1.at_, h.held.ext q2, ⟨T, X, h1.ext q2, h.held.x.trans q2, h3⟩⟩
theorem UpG.arm {n : Nat} {w0 W : World} {S : List Nat} {sb cb k rb : Nat} {l : Int} {ro : Option Addr} {R Q : List Ent} (h : UpG n W S sb cb k l R) (hH : Held w0 W S cb rb ro R Q) (z : Int) (hz : z ≤ 1000) :
    Calls Tryz.prog 44 #[.pointer (some ⟨cb, 0, none⟩), .int .i64 z] W fun e w' => e = .returned (.tuple #[]) ∧ UpG n w' S sb cb k z R ∧ Held w0 w' S cb rb ro R Q := by
  obtain ⟨M, m, a, x, N, O, h1, h2, h3, h4, h5, h6⟩ := h.ex
  refine (arm_any cb z M W h1.chip).mono fun e w' hh => ⟨hh.1, ?_, hH.kp ((Kp.grown hh.2.2).mono (fun x hx => by simp at hx; subst hx; exact hH.cS))⟩
  exact ⟨{ M with left := z }, m, a, x, N, O, h1.chg (Kp.grown hh.2.2) hh.2.1, h2.keep (fun _ _ => rfl) (fun _ _ => rfl) h2.nst.up rfl h2.bw h2.wr (Nat.le_refl _), h3, rfl, hz, h6⟩
theorem UpG.kp {n : Nat} {w w' : World} {S T : List Nat} {sb cb k : Nat} {l : Int} {R : List Ent} (h : UpG n w S sb cb k l R) (hK : Kp w w' T) (hd : ∀ b ∈ S, b ∉ T) (hg : 1 ∉ T) : UpG n w' S sb cb k l R := by
  obtain ⟨M, m, a, x, N, O, h1, h2, h3⟩ := h.ex
  exact ⟨M, m, a, x, N, O, h1.kp h2.nst.up hK hd hg, h2, h3⟩
theorem Held.rwG {n k : Nat} {l : Int} {w0 W : World} {S : List Nat} {sb cb rb : Nat} {ro : Option Addr} {R : List Ent} (hH : Held w0 W S cb rb ro R R) (hU : UpG n W S sb cb k l R) (hro : ∀ p, ro = some p → ¬ p.block = rb) (hrb : w0.heap.size ≤ rb) {eo : Option Addr} {ec : Nat} {es : List Ent} (hll : es.length ≤ 9223372036854775807) (hl : EntsAt w0 eo es) :
    Calls Tryz.prog 27 #[.pointer (some ⟨rb, 0, none⟩), .slice eo es.length ec] W fun r w' => (∃ v, r = .returned v) ∧ Held w0 w' S cb rb ro R (wrR R es) ∧ UpG n w' S sb cb k l R := by
  obtain ⟨f1, f2, f3, _⟩ := hU.few
  refine (rWrite_any W S rb R eo ec es hH.ref f3 f2 (by omega) hll (hl.ext2 hH.x)).mono fun r w' hh => ⟨⟨_, hh.1⟩, ?_⟩
  have hK := hh.2.2
  refine ⟨⟨hh.2.1, ⟨hH.was.at_.kp hK (fun p e hm => by simp at hm; exact hro p e hm), fun p e => Nat.lt_of_lt_of_le (hH.was.lt p e) hK.size, hH.was.no⟩, Kp.ext hH.x hK (fun b hb => by simp at hb; subst hb; exact hrb), hH.far, hH.cS, hH.gl, hH.lq.1, ?_⟩, hU.kp hK (fun b hb hm => by simp at hm; subst hm; exact hH.ref.no hb) (fun hm => by simp at hm; exact hH.ref.gl hm)⟩
  unfold wrR
  split
  · rename_i hw; exact (writeF_ok hw).2.2.2.2.2
  · exact hH.lq.1
theorem i64_and31' (n : Int) : bits .and .i64 n 31 = n % 32 := by
  have h31 : (BitVec.ofInt 64 31).toNat = 2 ^ 5 - 1 := by decide
  have key : (BitVec.ofInt 64 n &&& BitVec.ofInt 64 31).toNat = (n % ((2 ^ 64 : Nat) : Int)).toNat % 2 ^ 5 := by
    rw [BitVec.toNat_and, BitVec.toNat_ofInt, h31, Nat.and_two_pow_sub_one_eq_mod]
  show IntKind.i64.wrap ((BitVec.ofInt 64 n &&& BitVec.ofInt 64 31).toNat : Nat) = n % 32
  rw [key, IntKind.wrap_i64]
  omega
/-- The last write goes through, or there are as many keys as may be. -/
def zzE : Ent := ⟨⟨#[122, 122]⟩, ⟨#[122]⟩, false⟩
theorem put_le : ∀ (R : List Ent) (e : Ent), (putE R e).length ≤ R.length + 1
  | [], e => by simp [putE]
  | x :: r, e => by
    unfold putE
    split
    · simp; exact put_le r e
    · split
      · simp
      · simp
theorem zz_full {R : List Ent} (hn : R.length ≤ 40) (h : ¬ writeF R [zzE] = 0) : R.length = 40 := by
  have hb : (bytesT [zzE]).2 = 0 := by decide +kernel
  unfold writeF at h
  rw [if_neg (by simp), if_neg (by rw [hb]; simp)] at h
  by_cases h40 : 40 < (afterE R [zzE]).length
  · have h1 : (afterE R [zzE]).length ≤ (putE R zzE).length := by
      unfold afterE liveE
      exact List.length_filter_le _ _
    have := put_le R zzE
    omega
  · rw [if_neg h40] at h
    exact absurd rfl h
theorem FlsAt.last {w wr : World} {sb cb n k : Nat} (h : FlsAt w wr sb cb n k) (hn : n ≤ 80000) : ∃ q : Nat, (∃ v, Calls Tryz.prog 26 #[.pointer (some ⟨sb, 0, none⟩), .slice (some ⟨wr.heap.size, 0, none⟩) 1 1] (wr.alloc (.cells #[.string ⟨#[122, 122]⟩, .string ⟨#[122]⟩, .bool false] 49)) fun e w' => e = .returned v ∧ Ext w w' ∧ ((v = .nilIface ∧ q = 0) ∨ (q = 1 ∧ (∃ f, v = .iface 110 (.int .i64 f)) ∧ Calls Tryz.prog 38 #[.pointer (some ⟨sb, 0, none⟩)] w' fun e w'' => ∃ ro rc, e = .returned (.slice ro 40 rc) ∧ Ext w w''))) := by
  obtain ⟨S, R, hU, hx, hS⟩ := h.ex
  have hx' : Ext wr (wr.alloc (.cells #[.string ⟨#[122, 122]⟩, .string ⟨#[122]⟩, .bool false] 49)) := (Ext.refl _).alloc _
  have hlt := hU.few.2.2.1
  have hf := hU.few.1
  have hat : EntsAt (wr.alloc (.cells #[.string ⟨#[122, 122]⟩, .string ⟨#[122]⟩, .bool false] 49)) (some ⟨wr.heap.size, 0, none⟩) [zzE] := fun _ => by
    refine ⟨wr.heap.size, 0, rfl, fun i e he => ?_⟩
    have hb : Blk (wr.alloc (.cells #[.string ⟨#[122, 122]⟩, .string ⟨#[122]⟩, .bool false] 49)) wr.heap.size #[.string ⟨#[122, 122]⟩, .string ⟨#[122]⟩, .bool false] 49 := Blk.new _ _ _
    cases i with
    | zero => cases he; exact ⟨hb.cell 0, hb.cell 1, hb.cell 2⟩
    | succ i => simp at he
  have hA : Aside2 (wr.alloc (.cells #[.string ⟨#[122, 122]⟩, .string ⟨#[122]⟩, .bool false] 49)) S (some ⟨wr.heap.size, 0, none⟩) [zzE] := ⟨hat, fun p e => by cases e; simp, fun p e hm => by cases e; have := hlt _ hm; simp at this⟩
  obtain ⟨M, m, a, x, N, O, h1, h2, h3, h4, h5, h6⟩ := (hU.ext hx').ex
  by_cases hw : writeF R [zzE] = 0
  · refine ⟨0, .nilIface, ?_⟩
    have := swrite_any n _ S sb cb M m a x N O (some ⟨wr.heap.size, 0, none⟩) 1 [zzE] h1 h2 (by omega) hn hA (by rw [h3]; exact hw)
    refine this.mono fun e w' hO => ?_
    cases hO with
    | ok M' m' a' x' S' N' O' he hs hi hr hl' hq hw hk' hS' hQ => exact ⟨he, Kp.ext (hx.trans hx') hk' hS, .inl ⟨rfl, rfl⟩⟩
    | fell M' he hl => exact absurd (show M.left < 0 by omega) hl
  · refine ⟨1, .iface 110 (.int .i64 (writeF (rowsE (x.ns.map Nd.e) N O) [zzE])), ?_⟩
    have := swrite_bad n _ S sb cb M m a x N O (some ⟨wr.heap.size, 0, none⟩) 1 [zzE] h1 h2 hA.at_ hA.lt (by rw [h3]; exact hw)
    refine this.mono fun e w' hh => ⟨hh.1, (hx.trans hx').trans hh.2, .inr ⟨rfl, ⟨_, rfl⟩, ?_⟩⟩
    have hr := ((hU.ext hx').ext hh.2).rows
    rw [zz_full hf hw] at hr
    refine hr.mono fun e w'' hh' => ?_
    obtain ⟨ro, rc, q1, _, q2⟩ := hh'
    exact ⟨ro, rc, q1, ((hx.trans hx').trans hh.2).trans q2⟩
end Go.Proofs.YthndopokabceiaaGreatDoor
