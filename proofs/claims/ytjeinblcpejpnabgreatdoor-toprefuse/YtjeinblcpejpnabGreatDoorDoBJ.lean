/- DoA DoB. -/
import Derived.Test.YtjeinblcpejpnabGreatDoorWrkAJ
import Derived.Test.YtjeinblcpejpnabGreatDoorOpenAJ

/- The laws' acts on a store: do, Weak. -/
namespace Go.Proofs.YtjeinblcpejpnabGreatDoor
open Go.RowKit Go.WideShapes

theorem wkN_upd (wk : Nat → Bool) (b : Nat) : wkN (upd wk b true) ≤ wkN wk + 1 := by
  unfold wkN
  have key : ∀ X : List Nat, X.Nodup → X.countP (upd wk b true) ≤ X.countP wk + 1 := by
    intro X
    induction X with
    | nil => simp
    | cons y X ih =>
      intro hn
      obtain ⟨h1, h2⟩ := List.nodup_cons.1 hn
      by_cases hy : y = b
      · subst hy
        have : X.countP (upd wk y true) = X.countP wk := List.countP_congr (fun z hz => by rw [upd_other _ _ _ (show ¬ z = y from fun e => h1 (e ▸ hz))])
        rw [List.countP_cons, List.countP_cons, this, upd_same]; simp
      · rw [List.countP_cons, List.countP_cons, upd_other _ _ _ hy]; have := ih h2; omega
  exact key _ range_nodup
theorem weaken_wk (M : CM) (b : Int) : wkN (weakenM M b).wk ≤ wkN M.wk + 1 := by
  unfold weakenM
  split
  · exact wkN_upd _ _
  · omega
theorem Inv.weaken {n : Nat} {M : CM} {m : Man} {a : Nat} {hand : List Ent} {N O : List Tb} (h : Inv n M m a hand N O) (b : Int) (hk : wkN (weakenM M b).wk ≤ 6) : Inv n (weakenM M b) m a hand N O := by
  unfold weakenM at hk ⊢
  split
  · rename_i hb
    rw [if_pos hb] at hk
    obtain ⟨g, hg, hl⟩ := h.lg
    refine ⟨⟨h.nst.le, h.nst.up, fun c hc => ⟨?_, (h.nst.sound c hc).2⟩, h.nst.len, h.nst.new⟩, h.ok, h.ep, h.wr, h.nw, h.od, fun x hx => ⟨(h.tn x hx).ok, (h.tn x hx).lt, (h.tn x hx).pg⟩, fun x hx => ⟨(h.told x hx).ok, (h.told x hx).lt, (h.told x hx).pg⟩, ⟨g, hg, ⟨hl.ex⟩⟩, h.ris, h.live, h.few, h.few', h.rows, h.trows, fun c hc => ?_, hk⟩
    · show upd M.wk b.toNat true c = false
      rw [upd_other _ _ _ (by omega)]
      exact (h.nst.sound c hc).1
    · show upd M.wk b.toNat true c = true
      by_cases hcb : c = b.toNat
      · subst hcb; exact upd_same _ _ _
      · rw [upd_other _ _ _ hcb]; exact h.bw c hc
  · exact h
theorem Up.weaken {n : Nat} {w : World} {S : List Nat} {sb cb : Nat} {m : Man} {k : Nat} {R : List Ent} (h : Up n w S sb cb m k R) (hk : k + 1 ≤ 6) (b : Int) : Calls Tryz.prog 21 #[.pointer (some ⟨cb, 0, none⟩), .int .i64 b] w fun e w' => e = .returned (errV (weakenE b)) ∧ UpE n w w' S sb cb (k + 1) R := by
  obtain ⟨M, a, x, N, O, h1, h2, h3, h4, h5⟩ := h.ex
  refine (weaken_any cb b M w h1.chip).mono ?_
  rintro e w' ⟨rfl, hc, hg⟩
  have hw := weaken_wk M b
  have hK := Kp.grown hg
  refine ⟨rfl, ⟨S, m, ⟨weakenM M b, a, x, N, O, h1.chg hK hc, h2.weaken b (by omega), h3, ?_, by omega⟩, hK.mono (by simpa using h1.cS.1), fun b hb => .inl hb⟩⟩
  unfold weakenM
  split
  · exact h4
  · exact h4
/-- Kinds of acts. -/
def isWr (e : ActE) : Bool := e.kind.toList == [119, 114, 105, 116, 101]
def isFl (e : ActE) : Bool := e.kind.toList == [102, 108, 117, 115, 104]
def isCo (e : ActE) : Bool := e.kind.toList == [99, 111, 109, 112, 97, 99, 116]
def isWk (e : ActE) : Bool := e.kind.toList == [119, 101, 97, 107, 101, 110]
/-- What a write leaves. -/
def wrR (R l : List Ent) : List Ent := if writeF R l = 0 then afterE R l else R
/-- What an act leaves. -/
def doR (R : List Ent) (e : ActE) : List Ent := if isWr e then wrR R e.es else R
/-- How many weaken. -/
def weakN (l : List ActE) : Nat := l.countP isWk
def wk1 (e : ActE) : Nat := if isWk e = true then 1 else 0
theorem Up.le {n n' : Nat} {w : World} {S : List Nat} {sb cb : Nat} {m : Man} {k k' : Nat} {R : List Ent} (h : Up n w S sb cb m k R) (hn : n ≤ n') (hk : k ≤ k') : Up n' w S sb cb m k' R := by
  obtain ⟨M, a, x, N, O, h1, h2, h3, h4, h5⟩ := h.ex
  exact ⟨M, a, x, N, O, h1, h2.keep (fun _ _ => rfl) (fun _ _ => rfl) h2.nst.up rfl h2.bw (fun b => Nat.le_trans (h2.wr b) hn) hn, h3, h4, by omega⟩
theorem UpE.le {n n' : Nat} {w w' : World} {S : List Nat} {sb cb : Nat} {k k' : Nat} {R : List Ent} (h : UpE n w w' S sb cb k R) (hn : n ≤ n') (hk : k ≤ k') : UpE n' w w' S sb cb k' R := by
  obtain ⟨S', m, h1, h2⟩ := h.ex
  exact ⟨S', m, h1.le hn hk, h2⟩
theorem Up.same {n : Nat} {w w' : World} {S : List Nat} {sb cb : Nat} {m : Man} {k : Nat} {R : List Ent} (h : Up n w S sb cb m k R) (hx : Ext w w') : UpE n w w' S sb cb k R := ⟨S, m, h.ext hx, Kp.ofExt hx S, fun _ hb => .inl hb⟩
theorem UpE.from {n : Nat} {w w1 w' : World} {S : List Nat} {sb cb : Nat} {k : Nat} {R : List Ent} (h : UpE n w1 w' S sb cb k R) (hx : Ext w w1) : UpE n w w' S sb cb k R := by
  obtain ⟨S', m, h1, h2, h3⟩ := h.ex
  have := hx.size
  exact ⟨S', m, h1, (Kp.ofExt hx S).trans h2, fun b hb => by rcases h3 b hb with h' | h'; exact .inl h'; exact .inr (by omega)⟩
theorem Aside2.ext {w w' : World} {S : List Nat} {ao : Option Addr} {l : List Ent} (h : Aside2 w S ao l) (hx : Ext w w') : Aside2 w' S ao l := ⟨h.at_.ext2 hx, fun p e => Nat.lt_of_lt_of_le (h.lt p e) hx.size, h.no⟩
set_option maxRecDepth 20000 in
set_option maxHeartbeats 1000000 in
theorem check_nil (w : World) (S : List Nat) (sb cb : Nat) (M : CM) (m : Man) (a : Nat) (x : SMem) (ao : Option Addr) (cap : Nat) (h : StoAt w S sb cb M m a x) (hd : downB M = false) :
    Calls Tryz.prog 15 #[.pointer (some ⟨sb, 0, none⟩), .slice ao 0 cap] w fun e w' => e = .returned (.iface 88 (.int .i64 2)) ∧ w' = w := by
  have k0 := h.blk.cell 0
  simp [storeC] at k0
  have HD : Hid (Calls Tryz.prog 48 #[.pointer (some ⟨cb, 0, none⟩)] w fun e w' => e = .returned (.bool false) ∧ w = w') := by
    have := down_any cb M w h.chip
    rw [hd] at this
    exact this.mono fun _ _ h => ⟨h.1, h.2.symm⟩
  clear h hd
  go_enter Tryz.func15, Tryz.ntmps15
  go_wp2_with (go_at_call 48; refine HD.out.mono ?_; rintro e w1 ⟨rfl, rfl⟩)
  go_ret
  exact ⟨rfl, rfl⟩
set_option maxRecDepth 20000 in
set_option maxHeartbeats 1000000 in
theorem write_nil (w : World) (S : List Nat) (sb cb : Nat) (M : CM) (m : Man) (a : Nat) (x : SMem) (ao : Option Addr) (cap : Nat) (h : StoAt w S sb cb M m a x) (hd : downB M = false) :
    Calls Tryz.prog 17 #[.pointer (some ⟨sb, 0, none⟩), .slice ao 0 cap] w fun e w' => e = .returned (.iface 88 (.int .i64 2)) ∧ w' = w := by
  have CK : Hid (Calls Tryz.prog 15 #[.pointer (some ⟨sb, 0, none⟩), .slice ao 0 cap] w fun e w' => e = .returned (.iface 88 (.int .i64 2)) ∧ w' = w) := check_nil w S sb cb M m a x ao cap h hd
  clear h hd
  go_enter Tryz.func17, Tryz.ntmps17
  go_wp2_with (go_at_call 15; refine CK.out.mono ?_; rintro e w1 ⟨rfl, rfl⟩)
  go_ret
  exact ⟨rfl, rfl⟩
/-- A list that came in lies apart from a store; where it is empty, anywhere. -/
structure Aside3 (w : World) (S : List Nat) (ao : Option Addr) (l : List Ent) : Prop where
  ex : l = [] ∨ Aside2 w S ao l
theorem Aside3.ext {w w' : World} {S : List Nat} {ao : Option Addr} {l : List Ent} (h : Aside3 w S ao l) (hx : Ext w w') : Aside3 w' S ao l := ⟨h.ex.imp id (·.ext hx)⟩
/-- What lay there before the store did. -/
theorem Aside3.old {w0 w : World} {S : List Nat} {ao : Option Addr} {l : List Ent} (h : EntsAt w0 ao l) (hx : Ext w0 w) (hS : ∀ b ∈ S, w0.heap.size ≤ b) : Aside3 w S ao l := by
  by_cases hl : l = []
  · exact ⟨.inl hl⟩
  · obtain ⟨b, off, rfl, hc⟩ := h hl
    have hb : b < w0.heap.size := by
      obtain ⟨e, r, rfl⟩ := List.exists_cons_of_ne_nil hl
      have := (hc 0 e rfl).1
      rcases Nat.lt_or_ge b w0.heap.size with h' | h'
      · exact h'
      · simp [World.cell?, Array.getElem?_eq_none h'] at this
    have := hx.size
    exact ⟨.inr ⟨h.ext2 hx, fun p e => by cases e; show b < _; omega, fun p e hm => by cases e; have := hS _ hm; dsimp only at this; omega⟩⟩
/-- Write, whatever comes. -/
theorem Up.wr {n : Nat} {w : World} {S : List Nat} {sb cb : Nat} {m : Man} {k : Nat} {R : List Ent} (h : Up n w S sb cb m k R) (hn : n ≤ 80000) {ao : Option Addr} {cap : Nat} {l : List Ent} (hl : Aside3 w S ao l) : Calls Tryz.prog 17 #[.pointer (some ⟨sb, 0, none⟩), .slice ao l.length cap] w fun e w' => e = .returned (errV (writeF R l)) ∧ UpE (n + 9) w w' S sb cb k (wrR R l) := by
  rcases hl.ex with rfl | hl
  · obtain ⟨M, a, x, N, O, h1, h2, _⟩ := h.ex
    have hw : writeF R [] = 2 := by unfold writeF; rw [if_pos (by simp)]
    refine (write_nil w S sb cb M m a x ao cap h1 (by unfold downB; rw [h2.nst.up]; rfl)).mono fun e w' hh => ?_
    unfold wrR
    rw [hw, if_neg (by omega), hh.2]
    exact ⟨hh.1, (h.same (Ext.refl _)).le (by omega) (by omega)⟩
  by_cases hw : writeF R l = 0
  · refine (h.write hn hl hw).mono fun e w' hh => ?_
    unfold errV wrR
    rw [if_pos hw, if_pos hw]; exact hh
  · refine (h.refuse hl hw).mono fun e w' hh => ?_
    unfold errV wrR
    rw [if_neg hw, if_neg hw]; exact ⟨hh.1, (h.same hh.2).le (by omega) (by omega)⟩
set_option maxRecDepth 20000 in
set_option maxHeartbeats 2000000 in
theorem do_any (n : Nat) (w : World) (S : List Nat) (sb cb : Nat) (m : Man) (k : Nat) (R : List Ent) (e : ActE) (h : Up n w S sb cb m k R) (hn : n ≤ 80000) (hk : k + wk1 e ≤ 6) (hl : Aside3 w S e.ao e.es) :
    Calls Tryz.prog 28 #[.pointer (some ⟨cb, 0, none⟩), .pointer (some ⟨sb, 0, none⟩), .agg #[.string e.kind, .string e.s, .int .i64 e.a, .int .i64 e.b, .slice e.ao e.es.length e.cap]] w fun r w' => (∃ v, r = .returned v) ∧ UpE (n + 9) w w' S sb cb (k + wk1 e) (doR R e) := by
  have hx : Ext w (w.alloc (Obj.cells #[.string e.kind, .string e.s, .int .i64 e.a, .int .i64 e.b, .slice e.ao e.es.length e.cap] 41)) := (Ext.refl _).alloc _
  have hU := h.ext hx
  have hA := hl.ext hx
  by_cases hkw : (e.kind.toList == [119, 114, 105, 116, 101]) = true
  · have hd : doR R e = wrR R e.es := by unfold doR isWr; rw [if_pos hkw]
    have hwk : wk1 e = 0 := by
      unfold wk1 isWk
      rw [eq_of_beq hkw]; rfl
    have HR : Hid (∀ W, W = (w.alloc (Obj.cells #[.string e.kind, .string e.s, .int .i64 e.a, .int .i64 e.b, .slice e.ao e.es.length e.cap] 41)) → Calls Tryz.prog 17 #[.pointer (some ⟨sb, 0, none⟩), .slice e.ao e.es.length e.cap] W fun r w' => (∃ v, r = .returned v) ∧ UpE (n + 9) w w' S sb cb (k + wk1 e) (doR R e)) := fun W hW => by
      subst hW
      refine (hU.wr hn hA).mono fun r w' hh => ⟨⟨_, hh.1⟩, ?_⟩
      rw [hd, hwk]; exact hh.2.from hx
    clear hU hA h hl hx hk
    go_enter Tryz.func28, Tryz.ntmps28
    go_wp2_with (go_at_call 17; refine (HR.out _ rfl).mono ?_; rintro r w1 ⟨⟨v, rfl⟩, hE1⟩)
    go_ret
    exact ⟨⟨_, rfl⟩, hE1⟩
  · have hd : doR R e = R := by unfold doR isWr; rw [if_neg hkw]
    have hkw' : (e.kind.toList == [119, 114, 105, 116, 101]) = false := by simpa using hkw
    clear hkw
    by_cases hkf : (e.kind.toList == [102, 108, 117, 115, 104]) = true
    · have hwk : wk1 e = 0 := by
        unfold wk1 isWk
        rw [eq_of_beq hkf]; rfl
      have HR : Hid (∀ W, W = (w.alloc (Obj.cells #[.string e.kind, .string e.s, .int .i64 e.a, .int .i64 e.b, .slice e.ao e.es.length e.cap] 41)) → Calls Tryz.prog 19 #[.pointer (some ⟨sb, 0, none⟩)] W fun r w' => (∃ v, r = .returned v) ∧ UpE (n + 9) w w' S sb cb (k + wk1 e) (doR R e)) := fun W hW => by
        subst hW
        refine (hU.flush hn).mono fun r w' hh => ⟨⟨_, hh.1⟩, ?_⟩
        rw [hd, hwk]; exact hh.2.from hx
      clear hU hA h hl hx hk
      go_enter Tryz.func28, Tryz.ntmps28
      go_wp2_with (go_at_call 19; refine (HR.out _ rfl).mono ?_; rintro r w1 ⟨⟨v, rfl⟩, hE1⟩)
      go_ret
      exact ⟨⟨_, rfl⟩, hE1⟩
    · have hkf' : (e.kind.toList == [102, 108, 117, 115, 104]) = false := by simpa using hkf
      clear hkf
      by_cases hkc : (e.kind.toList == [99, 111, 109, 112, 97, 99, 116]) = true
      · have hwk : wk1 e = 0 := by
          unfold wk1 isWk
          rw [eq_of_beq hkc]; rfl
        have HR : Hid (∀ W, W = (w.alloc (Obj.cells #[.string e.kind, .string e.s, .int .i64 e.a, .int .i64 e.b, .slice e.ao e.es.length e.cap] 41)) → Calls Tryz.prog 20 #[.pointer (some ⟨sb, 0, none⟩)] W fun r w' => (∃ v, r = .returned v) ∧ UpE (n + 9) w w' S sb cb (k + wk1 e) (doR R e)) := fun W hW => by
          subst hW
          refine (hU.compact hn).mono fun r w' hh => ⟨⟨_, hh.1⟩, ?_⟩
          rw [hd, hwk]; exact (hh.2.from hx).le (by omega) (by omega)
        clear hU hA h hl hx hk
        go_enter Tryz.func28, Tryz.ntmps28
        go_wp2_with (go_at_call 20; refine (HR.out _ rfl).mono ?_; rintro r w1 ⟨⟨v, rfl⟩, hE1⟩)
        go_ret
        exact ⟨⟨_, rfl⟩, hE1⟩
      · have hkc' : (e.kind.toList == [99, 111, 109, 112, 97, 99, 116]) = false := by simpa using hkc
        clear hkc
        by_cases hkk : (e.kind.toList == [119, 101, 97, 107, 101, 110]) = true
        · have hwk : wk1 e = 1 := by unfold wk1 isWk; rw [if_pos hkk]
          have HR : Hid (∀ W, W = (w.alloc (Obj.cells #[.string e.kind, .string e.s, .int .i64 e.a, .int .i64 e.b, .slice e.ao e.es.length e.cap] 41)) → Calls Tryz.prog 21 #[.pointer (some ⟨cb, 0, none⟩), .int .i64 e.a] W fun r w' => (∃ v, r = .returned v) ∧ UpE (n + 9) w w' S sb cb (k + wk1 e) (doR R e)) := fun W hW => by
            subst hW
            refine (hU.weaken (by omega) e.a).mono fun r w' hh => ⟨⟨_, hh.1⟩, ?_⟩
            rw [hd, hwk]; exact (hh.2.from hx).le (by omega) (by omega)
          clear hU hA h hl hx hk
          go_enter Tryz.func28, Tryz.ntmps28
          go_wp2_with (go_at_call 21; refine (HR.out _ rfl).mono ?_; rintro r w1 ⟨⟨v, rfl⟩, hE1⟩)
          go_ret
          exact ⟨⟨_, rfl⟩, hE1⟩
        · have hkk' : (e.kind.toList == [119, 101, 97, 107, 101, 110]) = false := by simpa using hkk
          have hwk : wk1 e = 0 := by unfold wk1 isWk; rw [if_neg hkk]
          have HE : Hid (UpE (n + 9) w (w.alloc (Obj.cells #[.string e.kind, .string e.s, .int .i64 e.a, .int .i64 e.b, .slice e.ao e.es.length e.cap] 41)) S sb cb (k + wk1 e) (doR R e)) := by
            rw [Hid, hd, hwk]; exact (h.same hx).le (by omega) (by omega)
          clear hU hA h hl hx hk hkk
          go_enter Tryz.func28, Tryz.ntmps28
          go_wp2
          go_ret
          exact ⟨⟨_, rfl⟩, HE.out⟩
end Go.Proofs.YtjeinblcpejpnabGreatDoor

/- The laws' filled stores. -/
namespace Go.Proofs.YtjeinblcpejpnabGreatDoor
open Go.RowKit Go.WideShapes

theorem weakN_le (l : List ActE) : weakN l ≤ l.length := List.countP_le_length
theorem weakN_take {acs : List ActE} {k : Nat} {e : ActE} (he : acs[k]? = some e) : weakN (acs.take (k + 1)) = weakN (acs.take k) + wk1 e := by
  unfold weakN wk1
  rw [List.take_add_one, he, List.countP_append]
  cases hh : isWk e <;> simp [hh]
theorem weakN_mono (acs : List ActE) (k : Nat) : weakN (acs.take k) ≤ weakN acs := by
  have : weakN acs = weakN (acs.take k) + weakN (acs.drop k) := by
    unfold weakN
    rw [← List.countP_append, List.take_append_drop]
  omega
set_option maxRecDepth 20000 in
set_option maxHeartbeats 1000000 in
theorem weak_any (ao : Option Addr) (cap : Nat) (acs : List ActE) (w : World) (hl : acs.length ≤ 100) (has : ActsAt w ao acs) :
    Calls Tryz.prog 10 #[.slice ao acs.length cap] w fun e w' => e = .returned (.int .i64 (weakN acs : Int)) ∧ w' = w := by
  go_enter Tryz.func10, Tryz.ntmps10
  go_wp2_with fail
  go_loop [3, 4] (fun n i => ∃ k : Nat, k ≤ acs.length ∧ i = .int .i64 k ∧ n = .int .i64 (weakN (acs.take k) : Int)) (fun _ i => acs.length - (intOf i).toNat)
  case atStart => exact ⟨0, Nat.zero_le _, rfl, rfl⟩
  case round =>
    obtain ⟨k, hk, rfl, rfl⟩ := hrel
    have hwk := weakN_le (acs.take k)
    have hwl : (acs.take k).length ≤ k := by simp; omega
    by_cases hlt : k < acs.length
    · obtain ⟨b, off, e, rfl, he, c0, c1, c2, c3, c4, c5⟩ := has.get hlt
      have HT : Hid (weakN (acs.take (k + 1)) = weakN (acs.take k) + wk1 e) := weakN_take he
      clear he has c1 c2 c3 c4 c5
      generalize weakN (acs.take k) = q at *
      by_cases hkk : (e.kind.toList == [119, 101, 97, 107, 101, 110]) = true
      · have HW : Hid (wk1 e = 1) := by unfold Hid wk1 isWk; rw [if_pos hkk]
        go_wp2_with fail
        go_round
        case rel => exact ⟨k + 1, by omega, by go_num, by rw [HT.out, HW.out]; go_num⟩
        case measure => simp [intOf]; omega
      · have hkk' : (e.kind.toList == [119, 101, 97, 107, 101, 110]) = false := by simpa using hkk
        have HW : Hid (wk1 e = 0) := by unfold Hid wk1 isWk; rw [if_neg hkk]
        clear hkk
        go_wp2_with fail
        go_round
        case rel => exact ⟨k + 1, by omega, by go_num, by rw [HT.out, HW.out]; go_num⟩
        case measure => simp [intOf]; omega
    · clear has
      have HE : Hid (weakN acs = weakN (acs.take k)) := by unfold Hid; rw [List.take_of_length_le (by omega)]
      go_wp2_with fail
      go_ret
      refine ⟨?_, rfl⟩
      rw [HE.out]; rfl
/-- The rows that acts leave. -/
def fillR (acs : List ActE) : List Ent := acs.foldl doR []
/-- May a store be filled by them? -/
def fillB (acs : List ActE) : Bool := lightActs acs 80 && decide (weakN acs ≤ 6)
/-- A store has been filled. -/
structure FillE (w w' : World) (acs : List ActE) (e : Ending) : Prop where
  ex : ∃ cb sb S m, e = .returned (.tuple #[.pointer (some ⟨cb, 0, none⟩), .pointer (some ⟨sb, 0, none⟩), .bool true]) ∧ Up 800 w' S sb cb m (weakN acs) (fillR acs) ∧ Ext w w' ∧ ∀ b ∈ S, w.heap.size ≤ b
set_option maxRecDepth 20000 in
set_option maxHeartbeats 2000000 in
theorem filled_no (ao : Option Addr) (cap : Nat) (acs : List ActE) (w : World) (hl : acs.length ≤ 9223372036854775807) (has : ActsAt w ao acs) (hf : fillB acs = false) :
    Calls Tryz.prog 27 #[.slice ao acs.length cap] w fun e w' => e = .returned (.tuple #[.pointer none, .pointer none, .bool false]) ∧ w' = w := by
  have HL : Hid (Calls Tryz.prog 9 #[.slice ao acs.length cap, .int .i64 80] w fun e w' => e = .returned (.bool (lightActs acs 80)) ∧ w' = w) := lightActs_any ao cap acs 80 w (by omega) hl has
  cases hli : lightActs acs 80 with
  | false =>
    rw [hli] at HL
    clear has hf hli
    go_enter Tryz.func27, Tryz.ntmps27
    go_wp2_with (go_at_call 9; refine HL.out.mono ?_; rintro e w1 ⟨rfl, rfl⟩)
    go_ret3
    exact ⟨rfl, rfl⟩
  | true =>
    have h80 : acs.length ≤ 80 := by unfold lightActs at hli; simp at hli; exact hli.1
    have HW : Hid (Calls Tryz.prog 10 #[.slice ao acs.length cap] w fun e w' => e = .returned (.int .i64 (weakN acs : Int)) ∧ w' = w) := weak_any ao cap acs w (by omega) has
    have h6 : (6 : Int) < (weakN acs : Int) := by unfold fillB at hf; rw [hli] at hf; simp at hf; omega
    rw [hli] at HL
    clear has hf hli
    generalize weakN acs = q at *
    go_enter Tryz.func27, Tryz.ntmps27
    go_wp2_with (first
      | (go_at_call 9; refine HL.out.mono ?_; rintro e w1 ⟨rfl, rfl⟩)
      | (go_at_call 10; refine HW.out.mono ?_; rintro e w1 ⟨rfl, rfl⟩))
    go_ret3
    exact ⟨rfl, rfl⟩
theorem fill_take {acs : List ActE} {k : Nat} {e : ActE} (he : acs[k]? = some e) : fillR (acs.take (k + 1)) = doR (fillR (acs.take k)) e := by
  unfold fillR
  rw [List.take_add_one, he, List.foldl_append]; rfl
/-- A store that is being filled. -/
structure FillAt (w wr : World) (sb cb : Nat) (n k : Nat) (R : List Ent) : Prop where
  ex : ∃ S m, Up n wr S sb cb m k R ∧ Ext w wr ∧ ∀ b ∈ S, w.heap.size ≤ b
set_option maxRecDepth 20000 in
set_option maxHeartbeats 2000000 in
theorem filled_yes (ao : Option Addr) (cap : Nat) (acs : List ActE) (w : World) (hg : GlobT w) (hl : acs.length ≤ 9223372036854775807) (has : ActsAt w ao acs) (hf : fillB acs = true) :
    Calls Tryz.prog 27 #[.slice ao acs.length cap] w fun e w' => FillE w w' acs e := by
  unfold fillB at hf
  simp only [Bool.and_eq_true, decide_eq_true_eq] at hf
  obtain ⟨hli, hw6⟩ := hf
  have h80 : acs.length ≤ 80 := by unfold lightActs at hli; simp at hli; exact hli.1
  have HL : Hid (Calls Tryz.prog 9 #[.slice ao acs.length cap, .int .i64 80] w fun e w' => e = .returned (.bool true) ∧ w = w') := by
    have := lightActs_any ao cap acs 80 w (by omega) hl has
    rw [hli] at this; exact this.mono fun _ _ h => ⟨h.1, h.2.symm⟩
  have HW : Hid (Calls Tryz.prog 10 #[.slice ao acs.length cap] w fun e w' => e = .returned (.int .i64 (weakN acs : Int)) ∧ w = w') := (weak_any ao cap acs w (by omega) has).mono fun _ _ h => ⟨h.1, h.2.symm⟩
  have HS : Hid (Calls Tryz.prog 14 #[] w fun e w' => ∃ cb sb, e = .returned (.tuple #[.pointer (some ⟨cb, 0, none⟩), .pointer (some ⟨sb, 0, none⟩), .bool true]) ∧ FillAt w w' sb cb 4 0 []) := (stored_any w hg).mono fun _ _ h => by
    obtain ⟨cb, sb, S, h1, h2, h3, h4⟩ := h.up
    exact ⟨cb, sb, h1, ⟨S, fm, h2, h3, h4⟩⟩
  have HD : Hid (∀ k e wr sb cb, k < acs.length → acs[k]? = some e → EntsAt w e.ao e.es → FillAt w wr sb cb (4 + 9 * k) (weakN (acs.take k)) (fillR (acs.take k)) → Calls Tryz.prog 28 #[.pointer (some ⟨cb, 0, none⟩), .pointer (some ⟨sb, 0, none⟩), .agg #[.string e.kind, .string e.s, .int .i64 e.a, .int .i64 e.b, .slice e.ao e.es.length e.cap]] wr fun r w' => (∃ v, r = .returned v) ∧ FillAt w w' sb cb (4 + 9 * (k + 1)) (weakN (acs.take (k + 1))) (fillR (acs.take (k + 1))) ∧ Ext w w') := fun k e wr sb cb hk he hes hF => by
    obtain ⟨S, m, h1, h2, h3⟩ := hF.ex
    have hwn := weakN_take he
    have hwm := weakN_mono acs (k + 1)
    refine (do_any (4 + 9 * k) wr S sb cb m (weakN (acs.take k)) (fillR (acs.take k)) e h1 (by omega) (by omega) (Aside3.old hes h2 h3)).mono fun r w' hh => ⟨hh.1, ?_⟩
    obtain ⟨S', m', q1, q2, q3⟩ := hh.2.far h3 h2
    rw [hwn, fill_take he]
    exact ⟨⟨S', m', q1, q2, q3⟩, q2⟩
  have HN : Hid (weakN acs ≤ 6) := hw6
  have h6 : ¬ (6 : Int) < (weakN acs : Int) := by omega
  clear hl hli hw6 hg
  go_enter Tryz.func27, Tryz.ntmps27
  go_wp2_with (first
    | (go_at_call 9; refine HL.out.mono ?_; rintro e w1 ⟨rfl, rfl⟩)
    | (go_at_call 10; refine HW.out.mono ?_; rintro e w1 ⟨rfl, rfl⟩)
    | (go_at_call 14; refine HS.out.mono ?_; rintro e w1 ⟨cb, sb, rfl, hF1⟩))
  clear HL HS h6
  go_loopw [8] (fun i wr => ∃ k : Nat, k ≤ acs.length ∧ i = .int .i64 k ∧ FillAt w wr sb cb (4 + 9 * k) (weakN (acs.take k)) (fillR (acs.take k))) (fun i _ => acs.length - (intOf i).toNat)
  case atStart => exact ⟨0, Nat.zero_le _, rfl, hF1⟩
  case round =>
    clear hF1
    obtain ⟨k, hk, rfl, hF⟩ := hrel
    by_cases hlt : k < acs.length
    · obtain ⟨b, off, e, rfl, he, c0, c1, c2, c3, c4, c5⟩ := has.get hlt
      have hxw : Ext w wr := by obtain ⟨_, _, _, h, _⟩ := hF.ex; exact h
      have g0 := hxw.cell c0
      have g1 := hxw.cell c1
      have g2 := hxw.cell c2
      have g3 := hxw.cell c3
      have g4 := hxw.cell c4
      have HC : Hid (Calls Tryz.prog 28 #[.pointer (some ⟨cb, 0, none⟩), .pointer (some ⟨sb, 0, none⟩), .agg #[.string e.kind, .string e.s, .int .i64 e.a, .int .i64 e.b, .slice e.ao e.es.length e.cap]] wr fun r w' => (∃ v, r = .returned v) ∧ FillAt w w' sb cb (4 + 9 * (k + 1)) (weakN (acs.take (k + 1))) (fillR (acs.take (k + 1))) ∧ Ext w w') := HD.out k e wr sb cb hlt he c5.ents hF
      clear HD he has c0 c1 c2 c3 c4 c5 hF hxw
      go_wp2_with (go_at_call 28; refine HC.out.mono ?_; rintro r w2 ⟨⟨v, rfl⟩, hF2, _⟩)
      go_roundw
      case rel => exact ⟨k + 1, by omega, by go_num, hF2⟩
      case measure => simp [intOf]; omega
    · have HE : Hid (FillAt w wr sb cb (4 + 9 * k) (weakN acs) (fillR acs)) := by
        rw [List.take_of_length_le (by omega)] at hF; exact hF
      clear has HD hF
      go_wp2_with fail
      go_ret3
      obtain ⟨S, m, h1, h2, h3⟩ := HE.out.ex
      exact ⟨cb, sb, S, m, rfl, h1.le (by omega) (Nat.le_refl _), h2, h3⟩
end Go.Proofs.YtjeinblcpejpnabGreatDoor
