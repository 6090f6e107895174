
/- What Put and Live answer. -/
import Derived.Test.YtpldeejagomfjaaLstG
import Derived.Test.YtpldeejagomfjaaEntApp
namespace Go.Proofs.Ytpldeejagomfjaa
open Go.RowKit

theorem putE_pre (p r : List Ent) (e : Ent) (h : ∀ x ∈ p, Lt x.key e.key) : putE (p ++ r) e = p ++ putE r e := by
  induction p with
  | nil => rfl
  | cons x p ih =>
    show putE (x :: (p ++ r)) e = _
    rw [putE, if_pos (h x (by simp)), ih (fun y hy => h y (by simp [hy]))]; rfl
/-- Behind k rounds of Put. -/
inductive PutG (l : List Ent) (e : Ent) (k : Nat) : Bool → List Ent → Prop
  | low (h : ∀ x ∈ l.take k, Lt x.key e.key) : PutG l e k false (l.take k)
  | high (done : List Ent) (h : putE l e = done ++ l.drop k) (h2 : ∀ x ∈ l.drop k, Lt e.key x.key) : PutG l e k true done
theorem drop_cons {l : List Ent} {k : Nat} {x : Ent} (hx : l[k]? = some x) : l.drop k = x :: l.drop (k + 1) := by
  obtain ⟨hlt, rfl⟩ := List.getElem?_eq_some_iff.1 hx
  exact List.drop_eq_getElem_cons hlt
theorem put_split {l : List Ent} {e x : Ent} {k : Nat} (hx : l[k]? = some x) (h : ∀ y ∈ l.take k, Lt y.key e.key) : putE l e = l.take k ++ putE (x :: l.drop (k + 1)) e := by
  have h2 : l = l.take k ++ (x :: l.drop (k + 1)) := by rw [← drop_cons hx, List.take_append_drop]
  rw [← putE_pre _ _ _ h, ← h2]
theorem ris_above {l : List Ent} (hr : Ris l) {k : Nat} {x : Ent} (hx : l[k]? = some x) : ∀ y ∈ l.drop (k + 1), Lt x.key y.key := by
  have h1 : Ris (l.drop k) := List.Pairwise.sublist (List.drop_sublist k l) hr
  rw [drop_cons hx] at h1
  exact h1.head
theorem PutG.a {l : List Ent} {e x : Ent} {k : Nat} {done : List Ent} (g : PutG l e k false done) (hx : l[k]? = some x) (h : Lt x.key e.key) : PutG l e (k + 1) false (done ++ [x]) := by
  cases g with
  | low hh =>
    rw [← take_snocE hx]
    refine .low fun y hy => ?_
    rw [take_snocE hx] at hy
    rcases List.mem_append.1 hy with hy | hy
    · exact hh y hy
    · simp at hy; subst hy; exact h
theorem PutG.b {l : List Ent} (hr : Ris l) {e x : Ent} {k : Nat} {done : List Ent} (g : PutG l e k false done) (hx : l[k]? = some x) (h : x.key = e.key) : PutG l e (k + 1) true (done ++ [e]) := by
  cases g with
  | low hh =>
    refine .high _ ?_ ?_
    · rw [put_split hx hh, putE, if_neg (by rw [h]; exact Lt.irrefl _), if_pos h]; simp
    · intro y hy; rw [← h]; exact ris_above hr hx y hy
theorem PutG.c {l : List Ent} (hr : Ris l) {e x : Ent} {k : Nat} {done : List Ent} (g : PutG l e k false done) (hx : l[k]? = some x) (h : Lt e.key x.key) : PutG l e (k + 1) true (done ++ [e] ++ [x]) := by
  cases g with
  | low hh =>
    refine .high _ ?_ ?_
    · rw [put_split hx hh, putE, if_neg h.asymm, if_neg h.ne.symm]; simp
    · intro y hy; exact h.trans (ris_above hr hx y hy)
theorem PutG.d {l : List Ent} {e x : Ent} {k : Nat} {done : List Ent} (g : PutG l e k true done) (hx : l[k]? = some x) : Lt e.key x.key ∧ PutG l e (k + 1) true (done ++ [x]) := by
  cases g with
  | high _ h1 h2 =>
    rw [drop_cons hx] at h1 h2
    exact ⟨h2 x (by simp), .high _ (by rw [h1]; simp) (fun y hy => h2 y (by simp [hy]))⟩
theorem PutG.end0 {l : List Ent} {e : Ent} {k : Nat} {done : List Ent} (g : PutG l e k false done) (hk : l.length ≤ k) : putE l e = done ++ [e] := by
  cases g with
  | low hh =>
    rw [List.take_of_length_le hk] at *
    have := putE_pre l [] e hh
    rw [List.append_nil] at this
    rw [this]; rfl
theorem PutG.end1 {l : List Ent} {e : Ent} {k : Nat} {done : List Ent} (g : PutG l e k true done) (hk : l.length ≤ k) : putE l e = done := by
  cases g with
  | high _ h1 h2 => rw [h1, List.drop_of_length_le hk, List.append_nil]
theorem PutG.len {l : List Ent} {e : Ent} {k : Nat} {b : Bool} {done : List Ent} (g : PutG l e k b done) : done.length ≤ l.length + 1 := by
  cases g with
  | low hh => simp; omega
  | high _ h1 h2 =>
    have h3 : ∀ (l : List Ent), (putE l e).length ≤ l.length + 1 := by
      intro l
      induction l with
      | nil => simp [putE]
      | cons x r ih => unfold putE; split <;> (try split) <;> simp <;> omega
    have := congrArg List.length h1
    have := h3 l
    simp at *; omega

set_option maxRecDepth 20000 in
set_option maxHeartbeats 4000000 in
theorem refPut_any (ao : Option Addr) (cap : Nat) (es : List Ent) (key val : ByteArray) (gone : Bool) (w : World) (hl : es.length ≤ 1000) (hr : Ris es) (hes : EntsAt w ao es) :
    Calls Try.prog 52 #[.slice ao es.length cap, .agg #[.string key, .string val, .bool gone]] w fun e w' => ∃ v, e = .returned v ∧ Lst w w' v (putE es ⟨key, val, gone⟩) := by
  go_enter Try.func52, Try.ntmps52
  go_wp2
  have HX : Hid (Ext w (w.alloc (.cells #[.string key, .string val, .bool gone] 30))) := (Ext.refl _).alloc _
  have HB : Hid (Blk (w.alloc (.cells #[.string key, .string val, .bool gone] 30)) w.heap.size #[.string key, .string val, .bool gone] 30) := Blk.new _ _ _
  have HS : Hid ((w.alloc (.cells #[.string key, .string val, .bool gone] 30)).heap.size = w.heap.size + 1) := by simp [Hid]
  have hes1 := hes.ext HX.out
  generalize hW : w.alloc (.cells #[.string key, .string val, .bool gone] 30) = W1 at *
  clear hW hes
  go_loopw [5, 6, 7] (fun v b i wr => ∃ (k : Nat) (laid : Bool) (done : List Ent), k ≤ es.length ∧ i = .int .i64 k ∧ b = .bool laid ∧ Lst W1 wr v done ∧ PutG es ⟨key, val, gone⟩ k laid done) (fun _ _ i _ => es.length - (intOf i).toNat)
  case atStart => exact ⟨0, false, [], Nat.zero_le _, rfl, rfl, Lst.nil (Ext.refl _), .low (by simp)⟩
  case round =>
    obtain ⟨k, laid, done, hk, rfl, rfl, hL, hG⟩ := hrel
    have hdl := hG.len
    have hBr := HB.out.ext hL.ext
    have b0 := hBr.cell 0
    have b1 := hBr.cell 1
    have b2 := hBr.cell 2
    simp at b0 b1 b2
    have hbs := hBr.lt
    by_cases hlt : k < es.length
    · obtain ⟨b, off, ek, ev, eg, rfl, he, h1, h2, h3⟩ := hes1.get hlt
      have HE : Hid (es[k]? = some (⟨ek, ev, eg⟩ : Ent)) := he
      have g1 := hL.ext.cell h1
      have g2 := hL.ext.cell h2
      have g3 := hL.ext.cell h3
      have H1 : Hid (W1.cell? ⟨b, off + k * 3, none⟩ = some (.string ek) ∧ W1.cell? ⟨b, off + k * 3 + 1, none⟩ = some (.string ev) ∧ W1.cell? ⟨b, off + k * 3 + 2, none⟩ = some (.bool eg)) := ⟨h1, h2, h3⟩
      clear h1 h2 h3 he hes1
      cases laid with
      | true =>
        obtain ⟨hlt2, hG2⟩ := hG.d HE.out
        have hbe : (ek.toList == key.toList) = false := beq_ne hlt2.ne.symm
        clear hG hlt2
        go_wp2_with fail
        go_quiet (fail)
        go_wp2_with fail
        go_quiet (fail)
        go_wp2_with (at_builtin; refine wpList_app_ent rfl _ _ rfl W1 _ done rfl ?c1 _ ek ev eg rfl ?c2 ?c3 ?_)
        case c1 => exact (hL.drewN _).alloc _
        case c2 => exact Blk.new' _ _ _ (by simp)
        case c3 => (try simp only [List.length_append, List.length_cons, List.length_nil]); omega
        intro v2 w2 hL2
        clear hL g1 g2 g3 b0 b1 b2 hBr hbe
        go_wp2
        go_roundw
        case rel => exact ⟨k + 1, true, _, by omega, by go_num, rfl, hL2, hG2⟩
        case measure => simp [intOf]; omega
      | false =>
        rcases Lt.tri ek key with hc | hc | hc
        · have hG2 := hG.a HE.out hc
          have hbe : (ek.toList == key.toList) = false := beq_ne hc.ne
          have hbe2 : (key.toList == ek.toList) = false := beq_ne hc.ne.symm
          have hle : Op.bytesLess key.toList ek.toList = false := Lt.nless hc.asymm
          clear hG hc
          go_wp2_with fail
          go_quiet (fail)
          go_wp2_with fail
          go_quiet (fail)
          go_wp2_with (at_builtin; refine wpList_app_ent rfl _ _ rfl W1 _ done rfl ?c1 _ ek ev eg rfl ?c2 ?c3 ?_)
          case c1 => exact (hL.drewN _).alloc _
          case c2 => exact Blk.new' _ _ _ (by simp)
          case c3 => (try simp only [List.length_append, List.length_cons, List.length_nil]); omega
          intro v2 w2 hL2
          clear hL g1 g2 g3 b0 b1 b2 hBr hbe hbe2 hle
          go_wp2
          go_roundw
          case rel => exact ⟨k + 1, false, _, by omega, by go_num, rfl, hL2, hG2⟩
          case measure => simp [intOf]; omega
        · have hG2 := hG.b hr HE.out hc
          subst hc
          have hbe : (ek.toList == ek.toList) = true := by simp
          clear hG
          go_wp2_with fail
          go_quiet (fail)
          go_wp2_with (at_builtin; refine wpList_app_ent rfl _ _ rfl W1 _ done rfl ?c1 _ ek val gone rfl ?c2 ?c3 ?_)
          case c1 => exact (hL.drewN _).alloc _
          case c2 => exact Blk.new' _ _ _ (by simp)
          case c3 => (try simp only [List.length_append, List.length_cons, List.length_nil]); omega
          intro v2 w2 hL2
          have m1 := hL2.ext.cell H1.out.1
          have m2 := hL2.ext.cell H1.out.2.1
          have m3 := hL2.ext.cell H1.out.2.2
          have hBs := HB.out.ext hL2.ext
          have q0 := hBs.cell 0
          have q1 := hBs.cell 1
          have q2 := hBs.cell 2
          simp at q0 q1 q2
          have hbs2 := hBs.lt
          clear hL g1 g2 g3 b0 b1 b2 hBr
          go_wp2_with fail
          go_quiet (fail)
          go_wp2
          go_roundw
          case rel => exact ⟨k + 1, true, _, by omega, by go_num, rfl, hL2.drewN _, hG2⟩
          case measure => simp [intOf]; omega
        · have hG2 := hG.c hr HE.out hc
          have hbe : (ek.toList == key.toList) = false := beq_ne hc.ne.symm
          have hbe2 : (key.toList == ek.toList) = false := beq_ne hc.ne
          have hle : Op.bytesLess key.toList ek.toList = true := hc
          clear hG hc
          go_wp2_with fail
          go_quiet (fail)
          go_wp2_with (at_builtin; refine wpList_app_ent rfl _ _ rfl W1 _ done rfl ?c1 _ key val gone rfl ?c2 ?c3 ?_)
          case c1 => exact (hL.drewN _).alloc _
          case c2 => exact Blk.new' _ _ _ (by simp)
          case c3 => (try simp only [List.length_append, List.length_cons, List.length_nil]); omega
          intro v2 w2 hL2
          have m1 := hL2.ext.cell H1.out.1
          have m2 := hL2.ext.cell H1.out.2.1
          have m3 := hL2.ext.cell H1.out.2.2
          have hBs := HB.out.ext hL2.ext
          have q0 := hBs.cell 0
          have q1 := hBs.cell 1
          have q2 := hBs.cell 2
          simp at q0 q1 q2
          have hbs2 := hBs.lt
          clear hL g1 g2 g3 b0 b1 b2 hBr
          go_wp2_with fail
          go_quiet (fail)
          go_wp2_with (at_builtin; refine wpList_app_ent rfl _ _ rfl W1 _ (done ++ [⟨key, val, gone⟩]) rfl ?d1 _ ek ev eg rfl ?d2 ?d3 ?_)
          case d1 => exact (hL2.drewN _).alloc _
          case d2 => exact Blk.new' _ _ _ (by simp)
          case d3 => (try simp only [List.length_append, List.length_cons, List.length_nil]); omega
          intro v3 w3 hL3
          clear hL2 m1 m2 m3 q0 q1 q2 hBs
          go_wp2
          go_roundw
          case rel => exact ⟨k + 1, true, _, by omega, by go_num, rfl, hL3, by rw [List.append_assoc] at hG2; exact hG2⟩
          case measure => simp [intOf]; omega
    · clear hes1
      cases laid with
      | true =>
        have HE : Hid (putE es ⟨key, val, gone⟩ = done) := hG.end1 (by omega)
        clear hG b0 b1 b2 hBr
        go_wp2
        go_ret
        exact ⟨_, rfl, by rw [HE.out]; exact hL.back HX.out⟩
      | false =>
        have HE : Hid (putE es ⟨key, val, gone⟩ = done ++ [⟨key, val, gone⟩]) := hG.end0 (by omega)
        clear hG
        go_wp2_with (at_builtin; refine wpList_app_ent rfl _ _ rfl W1 _ done rfl ?c1 _ key val gone rfl ?c2 ?c3 ?_)
        case c1 => exact hL.alloc _
        case c2 => exact Blk.new _ _ _
        case c3 => (try simp only [List.length_append, List.length_cons, List.length_nil]); omega
        intro v2 w2 hL2
        clear hL b0 b1 b2 hBr
        go_wp2
        go_ret
        exact ⟨_, rfl, by rw [HE.out]; exact hL2.back HX.out⟩
end Go.Proofs.Ytpldeejagomfjaa
