/- Rev BtwA BtwB ScnR ConC ConD ConE ConF ConG ConH ConI. -/
import Derived.Shelf.GgSortFunc.RowK
import Derived.Test.YtkibgflbidkalaaGreatDoorProg
import Derived.Test.YtkibgflbidkalaaGreatDoorScnBJ
import Derived.Test.YtkibgflbidkalaaGreatDoorConBJ
import Derived.Test.YtkibgflbidkalaaGreatDoorLawAJ
import Derived.Deep.RegionWith
/- No contract of slices.Reverse is wanted in this seat: nothing calls it. What its laws speak of is brought in. -/
namespace Go.Proofs
end Go.Proofs

/- Rows between two keys: where they begin; a list that is turned round in place. -/
namespace Go.Proofs.YtkibgflbidkalaaGreatDoor
open Go.RowKit Go.WideShapes

end Go.Proofs.YtkibgflbidkalaaGreatDoor

/- Rows between two keys: Between. -/
namespace Go.Proofs.YtkibgflbidkalaaGreatDoor
open Go.RowKit Go.WideShapes

theorem EntsAt.dropM {W : World} {ao : Option Addr} {es : List Ent} (hE : EntsAt W ao es) (r : Nat) : EntsAt W (Option.map (fun x => x.add (r * 3)) ao) (es.drop r) := fun hne => by
  have hR : es ≠ [] := fun h => hne (by rw [h]; simp)
  obtain ⟨b, off, rfl, _⟩ := hE hR
  rw [Option.map_some, add3]
  exact hE.drop r hne
structure FrE (w0 w : World) (ao : Option Addr) (es : List Ent) : Prop where
  at_ : EntsAt w ao es
  new : ∀ p, ao = some p → w0.heap.size ≤ p.block ∧ ∃ cs, Blk w p.block cs 56
  x : Ext w0 w
theorem FrE.drop {w0 w : World} {ao : Option Addr} {es : List Ent} (h : FrE w0 w ao es) (r : Nat) : FrE w0 w (Option.map (fun x => x.add (r * 3)) ao) (es.drop r) := ⟨h.at_.dropM r, fun p hp => by
  cases ao with
  | none => cases hp
  | some q => cases hp; rw [add_blk]; exact h.new q rfl, h.x⟩
theorem FrE.cut {w0 w : World} {ao : Option Addr} {es : List Ent} (h : FrE w0 w ao es) {r c : Nat} (h1 : es.length ≤ c) : FrE w0 w (if c = r then ao else Option.map (fun x => x.add (r * 3)) ao) (es.drop r) := by
  split
  · rename_i hc
    rw [List.drop_eq_nil_of_le (by omega)]
    exact ⟨fun h => absurd rfl h, h.new, h.x⟩
  · exact h.drop r
end Go.Proofs.YtkibgflbidkalaaGreatDoor

/- The document's Paged and Between. -/
namespace Go.Proofs.YtkibgflbidkalaaGreatDoor
open Go.RowKit Go.WideShapes

def gtQ (after : ByteArray) (e : Ent) : Bool := Op.bytesLess after.toList e.key.toList
theorem pgE_gtQ (R : List Ent) (after : ByteArray) (many : Int) : pgE R after many = (R.filter (gtQ after)).take many.toNat := rfl
theorem filter_snoc {q : Ent → Bool} {es : List Ent} {k : Nat} {e : Ent} (he : es[k]? = some e) : (es.take (k + 1)).filter q = if q e then (es.take k).filter q ++ [e] else (es.take k).filter q := by
  rw [List.take_add_one, he, List.filter_append]
  cases h : q e <;> simp [h]
theorem filter_len (q : Ent → Bool) (es : List Ent) (k : Nat) : ((es.take k).filter q).length ≤ k := Nat.le_trans (List.length_filter_le _ _) (by simp; omega)
theorem page_end {R : List Ent} {after : ByteArray} {many : Int} {k : Nat} (h : R.length ≤ k ∧ ((((R.take k).filter (gtQ after)).length : Int) ≤ max many 0) ∨ (many ≤ (((R.take k).filter (gtQ after)).length : Int) ∧ (((R.take k).filter (gtQ after)).length : Int) ≤ max many 0)) : pgE R after many = (R.take k).filter (gtQ after) := by
  rw [pgE_gtQ]
  rcases h with ⟨h1, h2⟩ | ⟨h1, h2⟩
  · rw [List.take_of_length_le h1] at h2 ⊢
    exact List.take_of_length_le (by omega)
  · have e : R.filter (gtQ after) = (R.take k).filter (gtQ after) ++ (R.drop k).filter (gtQ after) := by
      rw [← List.filter_append, List.take_append_drop]
    rw [e, List.take_append_of_le_length (by omega), List.take_of_length_le (by omega)]
set_option maxRecDepth 20000 in
set_option maxHeartbeats 2000000 in
theorem rpaged_any (ao : Option Addr) (cap : Nat) (es : List Ent) (after : ByteArray) (many : Int) (w : World) (hl : es.length ≤ 1000) (hes : EntsAt w ao es) :
    Calls Tryz.prog 20 #[.slice ao es.length cap, .string after, .int .i64 many] w fun e w' => ∃ v, e = .returned v ∧ Lst w w' v (pgE es after many) := by
  have HE : Hid (∀ k, (es.length ≤ k ∧ ((((es.take k).filter (gtQ after)).length : Int) ≤ max many 0) ∨ (many ≤ (((es.take k).filter (gtQ after)).length : Int) ∧ (((es.take k).filter (gtQ after)).length : Int) ≤ max many 0)) → pgE es after many = (es.take k).filter (gtQ after)) := fun k h => page_end h
  generalize pgE es after many = res at *
  go_enter Tryz.func20, Tryz.ntmps20
  go_wp2
  go_loopw [7, 8] (fun v i wr => ∃ (k : Nat), k ≤ es.length ∧ i = .int .i64 k ∧ Lst w wr v ((es.take k).filter (gtQ after)) ∧ (((es.take k).filter (gtQ after)).length : Int) ≤ max many 0) (fun _ i _ => es.length - (intOf i).toNat)
  case atStart => exact ⟨0, Nat.zero_le _, rfl, Lst.nil (Ext.refl _), by simp; omega⟩
  case round =>
    obtain ⟨k, hk, rfl, hL, hm⟩ := hrel
    by_cases hlt : k < es.length
    · obtain ⟨b, off, ek, ev, eg, rfl, he, h1, h2, h3⟩ := hes.get hlt
      have HS : Hid ((es.take (k + 1)).filter (gtQ after) = if gtQ after ⟨ek, ev, eg⟩ then (es.take k).filter (gtQ after) ++ [⟨ek, ev, eg⟩] else (es.take k).filter (gtQ after)) := filter_snoc he
      have hll := filter_len (gtQ after) es k
      have g1 := hL.ext.cell h1
      have g2 := hL.ext.cell h2
      have g3 := hL.ext.cell h3
      have hg := gt_less ek after
      have HEK := HE.out k
      clear h1 h2 h3 he hes HE
      obtain ⟨v0, c0, hv0, _⟩ := hL.at
      subst hv0
      by_cases hmm : (((es.take k).filter (gtQ after)).length : Int) < many
      · generalize (es.take k).filter (gtQ after) = done at *
        have hkl : (k : Int) < (es.length : Int) := by omega
        cases hq : Op.bytesLess after.toList ek.toList with
        | false =>
          have HS' : Hid ((es.take (k + 1)).filter (gtQ after) = done) := by rw [Hid, HS.out, if_neg (by unfold gtQ; dsimp only; rw [hq]; simp)]
          rw [hq] at hg
          clear HS hq HEK
          go_wp2
          go_roundw
          case rel => exact ⟨k + 1, by omega, by go_num, by rw [HS'.out]; exact ⟨hL, hm⟩⟩
          case measure => simp [intOf]; omega
        | true =>
          have HS' : Hid ((es.take (k + 1)).filter (gtQ after) = done ++ [⟨ek, ev, eg⟩]) := by rw [Hid, HS.out, if_pos (by unfold gtQ; dsimp only; exact hq)]
          rw [hq] at hg
          clear HS hq HEK
          go_wp2_with (at_builtin; refine wpList_app_ent rfl _ _ rfl w _ done rfl ?c1 _ ek ev eg rfl ?c2 ?c3 ?_)
          case c1 => exact hL.alloc _
          case c2 => exact Blk.new' _ _ _ (by simp)
          case c3 => omega
          intro v2 w2 hL2
          clear hL g1 g2 g3
          go_wp2
          go_roundw
          case rel => exact ⟨k + 1, by omega, by go_num, by rw [HS'.out]; exact ⟨hL2, by rw [List.length_append]; simp; omega⟩⟩
          case measure => simp [intOf]; omega
      · have HR : Hid (Lst w wr (.slice v0 ((es.take k).filter (gtQ after)).length c0) res) := by
          rw [HEK (.inr ⟨by omega, hm⟩)]; exact hL
        clear HS HEK hL g1 g2 g3 hg
        generalize (es.take k).filter (gtQ after) = done at *
        go_wp2
        go_ret
        exact ⟨_, rfl, HR.out⟩
    · obtain ⟨v0, c0, hv0, _⟩ := hL.at
      subst hv0
      have HR : Hid (Lst w wr (.slice v0 ((es.take k).filter (gtQ after)).length c0) res) := by
        rw [HE.out k (.inl ⟨by omega, hm⟩)]; exact hL
      clear HE hL hes
      generalize (es.take k).filter (gtQ after) = done at *
      go_wp2
      go_ret
      exact ⟨_, rfl, HR.out⟩
end Go.Proofs.YtkibgflbidkalaaGreatDoor

/- A session in memory: opened, written to, asked for rows and keys. -/
namespace Go.Proofs.YtkibgflbidkalaaGreatDoor
open Go.RowKit Go.WideShapes

def Asd (w : World) (S : List Nat) (rb : Nat) (g : Option (Nat × Obj)) : Prop := ∀ b o, g = some (b, o) → w.heap[b]? = some o ∧ b ∉ S ∧ ¬ b = rb
theorem heap_lt {w : World} {b : Nat} {o : Obj} (h : w.heap[b]? = some o) : b < w.heap.size := by
  rcases Nat.lt_or_ge b w.heap.size with h' | h'
  · exact h'
  · rw [Array.getElem?_eq_none h'] at h; cases h
theorem Asd.ext {w w' : World} {S : List Nat} {rb : Nat} {g : Option (Nat × Obj)} (h : Asd w S rb g) (hx : Ext w w') : Asd w' S rb g := fun b o e => by
  obtain ⟨h1, h2⟩ := h b o e
  exact ⟨by rw [hx.below.block b (heap_lt h1)]; exact h1, h2⟩
theorem Asd.kp {w w' : World} {S S' : List Nat} {rb : Nat} {g : Option (Nat × Obj)} (h : Asd w S rb g) (hK : Kp w w' S) (hS : ∀ b ∈ S', b ∈ S ∨ w.heap.size ≤ b) : Asd w' S' rb g := fun b o e => by
  obtain ⟨h1, h2, h3⟩ := h b o e
  have hlt := heap_lt h1
  refine ⟨by rw [hK.blk b hlt h2]; exact h1, fun hm => ?_, h3⟩
  rcases hS b hm with h' | h'
  · exact h2 h'
  · omega
theorem Asd.sub {w : World} {S S' : List Nat} {rb : Nat} {g : Option (Nat × Obj)} (h : Asd w S rb g) (hs : ∀ b ∈ S', b ∈ S ∨ w.heap.size ≤ b) : Asd w S' rb g := h.kp (Kp.refl w S) hs
theorem Asd.set {w : World} {S : List Nat} {rb : Nat} {g : Option (Nat × Obj)} (h : Asd w S rb g) (i : Nat) (v : Value) : Asd (w.setCell ⟨rb, i, none⟩ v) S rb g := fun b o e => by
  obtain ⟨h1, h2, h3⟩ := h b o e
  exact ⟨by rw [Below.heap_setCell w ⟨rb, i, none⟩ v b h3]; exact h1, h2, h3⟩
structure SesX (w wr : World) (rb n : Nat) (g : Option (Nat × Obj)) (M : CM) (m : Man) (a : Nat) (hand : List Ent) (N O : List Tb) : Prop where
  ex : ∃ S cb sb x, StoAt wr S sb cb M m a x ∧ x.ns.map Nd.e = hand ∧ Inv n M m a hand N O ∧ Blk wr rb #[.pointer (some ⟨cb, 0, none⟩), .pointer (some ⟨sb, 0, none⟩)] 45 ∧ rb ∉ S ∧ (∀ b ∈ S, w.heap.size ≤ b) ∧ Asd wr S rb g
  ge : w.heap.size ≤ rb
  gl : ¬ 1 = rb
  x : Ext w wr
structure Ses (w wr : World) (rb n : Nat) (g : Option (Nat × Obj)) (R : List Ent) : Prop where
  ex : ∃ M m a hand N O, SesX w wr rb n g M m a hand N O ∧ rowsE hand N O = R ∧ M.left = -1 ∧ wkN M.wk ≤ 0 ∧ N.length ≤ 2
theorem SesX.ext {w wr w' : World} {rb n : Nat} {g : Option (Nat × Obj)} {M : CM} {m : Man} {a : Nat} {hand : List Ent} {N O : List Tb} (h : SesX w wr rb n g M m a hand N O) (hx : Ext wr w') : SesX w w' rb n g M m a hand N O := by
  obtain ⟨S, cb, sb, x, h1, h2, h3, h4, h5, h6, h7⟩ := h.ex
  exact ⟨⟨S, cb, sb, x, h1.ext hx, h2, h3, h4.ext hx, h5, h6, h7.ext hx⟩, h.ge, h.gl, h.x.trans hx⟩
theorem Ses.ext {w wr w' : World} {rb n : Nat} {g : Option (Nat × Obj)} {R : List Ent} (h : Ses w wr rb n g R) (hx : Ext wr w') : Ses w w' rb n g R := by
  obtain ⟨M, m, a, hand, N, O, h1, h2⟩ := h.ex
  exact ⟨M, m, a, hand, N, O, h1.ext hx, h2⟩
theorem Ses.x {w wr : World} {rb n : Nat} {g : Option (Nat × Obj)} {R : List Ent} (h : Ses w wr rb n g R) : Ext w wr := by
  obtain ⟨M, m, a, hand, N, O, h1, h2⟩ := h.ex
  exact h1.x
theorem Ses.le {w wr : World} {rb n n' : Nat} {g : Option (Nat × Obj)} {R : List Ent} (h : Ses w wr rb n g R) (hn : n ≤ n') : Ses w wr rb n' g R := by
  obtain ⟨M, m, a, hand, N, O, ⟨⟨S, cb, sb, x, h1, h2, hi, h3⟩, h4, h5, h6⟩, h7⟩ := h.ex
  exact ⟨M, m, a, hand, N, O, ⟨⟨S, cb, sb, x, h1, h2, hi.keep (fun _ _ => rfl) (fun _ _ => rfl) hi.nst.up rfl hi.bw (fun b => Nat.le_trans (hi.wr b) hn) hn, h3⟩, h4, h5, h6⟩, h7⟩
theorem Ses.up {w wr : World} {rb n : Nat} {g : Option (Nat × Obj)} {R : List Ent} (h : Ses w wr rb n g R) : ∃ S m cb sb, Up n wr S sb cb m 0 R ∧ Blk wr rb #[.pointer (some ⟨cb, 0, none⟩), .pointer (some ⟨sb, 0, none⟩)] 45 ∧ rb ∉ S ∧ (∀ b ∈ S, w.heap.size ≤ b) ∧ w.heap.size ≤ rb ∧ ¬ 1 = rb ∧ Ext w wr ∧ Asd wr S rb g := by
  obtain ⟨M, m, a, hand, N, O, ⟨⟨S, cb, sb, x, h1, h2, hi, h3, h4, h5, ha⟩, h6, h7, h8⟩, h9, h10, h11, h12⟩ := h.ex
  refine ⟨S, m, cb, sb, ⟨M, a, x, N, O, h1, by rw [h2]; exact hi, by rw [h2]; exact h9, h10, h11, h12⟩, h3, h4, h5, h6, h7, h8, ha⟩
theorem Up.ses {w wr : World} {rb n : Nat} {g : Option (Nat × Obj)} {R : List Ent} {S : List Nat} {m : Man} {cb sb : Nat} (h : Up n wr S sb cb m 0 R) (hB : Blk wr rb #[.pointer (some ⟨cb, 0, none⟩), .pointer (some ⟨sb, 0, none⟩)] 45) (hr : rb ∉ S) (hS : ∀ b ∈ S, w.heap.size ≤ b) (hw : w.heap.size ≤ rb) (hg : ¬ 1 = rb) (hx : Ext w wr) (ha : Asd wr S rb g) : Ses w wr rb n g R := by
  obtain ⟨M, a, x, N, O, h1, h2, h3, h4⟩ := h.ex
  exact ⟨M, m, a, _, N, O, ⟨⟨S, cb, sb, x, h1, rfl, h2, hB, hr, hS, ha⟩, hw, hg, hx⟩, h3, h4⟩
theorem UpE.ses {w wr w' : World} {rb n : Nat} {g : Option (Nat × Obj)} {R : List Ent} {S : List Nat} {cb sb : Nat} (h : UpE n wr w' S sb cb 0 R) (hB : Blk wr rb #[.pointer (some ⟨cb, 0, none⟩), .pointer (some ⟨sb, 0, none⟩)] 45) (hr : rb ∉ S) (hS : ∀ b ∈ S, w.heap.size ≤ b) (hw : w.heap.size ≤ rb) (hg : ¬ 1 = rb) (hx : Ext w wr) (ha : Asd wr S rb g) : Ses w w' rb n g R := by
  obtain ⟨S', m', q1, q2, q3⟩ := h.ex
  have hlt := hB.lt
  have hz := hx.size
  refine q1.ses (q2.Blk hB hr) (fun hm => ?_) (fun b hb => ?_) hw hg (Kp.ext hx q2 hS) (ha.kp q2 q3)
  · rcases q3 _ hm with h' | h'
    · exact hr h'
    · omega
  · rcases q3 b hb with h' | h'
    · exact hS b h'
    · omega
theorem Ses.few {w wr : World} {rb n : Nat} {g : Option (Nat × Obj)} {R : List Ent} (h : Ses w wr rb n g R) : R.length ≤ 40 := by
  obtain ⟨S, m, cb, sb, h1, _⟩ := h.up
  exact h1.few
theorem Ses.plain {w wr : World} {rb n : Nat} {g : Option (Nat × Obj)} {R : List Ent} (h : Ses w wr rb n g R) : Ris R ∧ (∀ e ∈ R, e.gone = false) ∧ ∀ e ∈ R, faultE e = 0 := by
  obtain ⟨S, m, cb, sb, h1, _⟩ := h.up
  exact h1.plain
def wrtF (R : List Ent) (t : ByteArray) : Int := match parseE t with | none => 4 | some l => writeF R l
def wrtR (R : List Ent) (t : ByteArray) : List Ent := match parseE t with | none => R | some l => wrR R l
structure ParA (W w' : World) (e : Ending) (l : List Ent) : Prop where
  ex : ∃ ao c, e = .returned (.tuple #[.slice ao l.length c, .nilIface]) ∧ EntsAt w' ao l ∧ (∀ p, ao = some p → W.heap.size ≤ p.block ∧ p.block < w'.heap.size) ∧ Ext W w'
theorem parse_none {t : ByteArray} {W : World} (hs : t.size ≤ 100000) (hg : Tryz.Glob W) (h : parseE t = none) :
    Calls Tryz.prog 56 #[.string t] W fun e w' => ∃ ao c, e = .returned (.tuple #[.slice ao 0 c, .iface 39 (.int .i64 4)]) ∧ Ext W w' :=
  (bparse_any t W hs hg).mono fun _ w' hh => by
    rw [h] at hh
    obtain ⟨v, h1, h2⟩ := hh.ex
    obtain ⟨ao, c, rfl, _⟩ := h2.at
    exact ⟨ao, c, h1, h2.ext⟩
theorem parse_some {t : ByteArray} {W : World} {l : List Ent} (hs : t.size ≤ 100000) (hg : Tryz.Glob W) (h : parseE t = some l) :
    Calls Tryz.prog 56 #[.string t] W fun e w' => ParA W w' e l :=
  (bparse_any t W hs hg).mono fun _ w' hh => by
    rw [h] at hh
    obtain ⟨v, h1, h2⟩ := hh.ex
    obtain ⟨ao, c, rfl, _⟩ := h2.at
    have hR := h2.retE (Ext.refl W)
    obtain ⟨ao', c', he, _, hE, hn, hx⟩ := hR.ex
    cases he
    exact ⟨ao, c, h1, hE, fun p e => ⟨(hn p e).1, by obtain ⟨cs, hb⟩ := (hn p e).2; exact hb.lt⟩, hx⟩
set_option maxRecDepth 20000 in
set_option maxHeartbeats 2000000 in
theorem sess_write {w wr : World} {rb n : Nat} {g : Option (Nat × Obj)} {R : List Ent} (h : Ses w wr rb n g R) (hn : n ≤ 80000) (t : ByteArray) (hs : t.size ≤ 100000) (hg : Tryz.Glob w) :
    Calls Tryz.prog 30 #[.pointer (some ⟨rb, 0, none⟩), .string t] wr fun e w' => e = .returned (errV (wrtF R t)) ∧ Ses w w' rb (n + 9) g (wrtR R t) := by
  have hgr := glob_ext hg h.x
  obtain ⟨S, m, cb, sb, hU, hB, h1, h2, h3, h4, h5, h6⟩ := h.up
  cases hp : parseE t with
  | none =>
    have HP : Hid (Calls Tryz.prog 56 #[.string t] wr fun e w' => ∃ ao c, e = .returned (.tuple #[.slice ao 0 c, .iface 39 (.int .i64 4)]) ∧ Ses w w' rb (n + 9) g R) := (parse_none hs hgr hp).mono fun _ w' hh => by
      obtain ⟨ao, c, q1, q2⟩ := hh
      exact ⟨ao, c, q1, (h.ext q2).le (by omega)⟩
    have hf : wrtF R t = 4 := by unfold wrtF; rw [hp]
    have hr : wrtR R t = R := by unfold wrtR; rw [hp]
    rw [hf, hr]
    clear hU hB h hg hgr hf hr hp
    go_enter Tryz.func30, Tryz.ntmps30
    go_wp2_with (go_at_call 56; refine HP.out.mono ?_; rintro e w1 ⟨ao, c, rfl, hS1⟩)
    go_ret
    exact ⟨rfl, hS1⟩
  | some l =>
    have HP : Hid (Calls Tryz.prog 56 #[.string t] wr fun e w' => ∃ ao c, e = .returned (.tuple #[.slice ao l.length c, .nilIface]) ∧ w'.cell? ⟨rb, 1, none⟩ = some (.pointer (some ⟨sb, 0, none⟩)) ∧ Hid (Calls Tryz.prog 57 #[.pointer (some ⟨sb, 0, none⟩), .slice ao l.length c] w' fun e w2 => e = .returned (errV (wrtF R t)) ∧ Ses w w2 rb (n + 9) g (wrtR R t))) := (parse_some hs hgr hp).mono fun _ w' hh => by
      obtain ⟨ao, c, q1, q2, q3, q4⟩ := hh.ex
      refine ⟨ao, c, q1, (hB.ext q4).cell 1, ?_⟩
      have hA : Aside3 w' S ao l := ⟨.inr ⟨q2, fun p e => (q3 p e).2, fun p e hm => by have := hU.lt _ hm; have := (q3 p e).1; omega⟩⟩
      refine ((hU.ext q4).wr hn hA).mono fun _ w2 hh => ?_
      unfold wrtF wrtR
      rw [hp]
      exact ⟨hh.1, hh.2.ses (hB.ext q4) h1 h2 h3 h4 (h5.trans q4) (h6.ext q4)⟩
    clear hU hB h hg hgr hp h1 h2 h3 h4 h5 h6
    generalize errV (wrtF R t) = ev at *
    go_enter Tryz.func30, Tryz.ntmps30
    go_wp2_with (first
      | (go_at_call 56; refine HP.out.mono ?_; rintro e w1 ⟨ao, c, rfl, hc1, HW⟩)
      | (go_at_call 57; refine HW.out.mono ?_; rintro e w2 ⟨rfl, hS2⟩))
    go_ret
    exact ⟨rfl, hS2⟩
theorem getR_has {e : Ent} (h : e.gone = false) : getR (some e) = .tuple #[.string e.val, .bool true, .nilIface] := by
  obtain ⟨k, v, g⟩ := e
  dsimp only at h
  subst h
  rfl
def getT (R : List Ent) (key : ByteArray) : ByteArray := match getE R key with
  | some e => ⟨#[61]⟩ ++ e.val
  | none => errT 5
set_option maxRecDepth 20000 in
set_option maxHeartbeats 2000000 in
theorem sess_get {w wr : World} {rb n : Nat} {g : Option (Nat × Obj)} {R : List Ent} (h : Ses w wr rb n g R) (key : ByteArray) (hk : key.size ≤ 1000) :
    Calls Tryz.prog 63 #[.pointer (some ⟨rb, 0, none⟩), .string key] wr fun e w' => e = .returned (.string (getT R key)) ∧ Ext wr w' := by
  have hpl := h.plain
  obtain ⟨S, m, cb, sb, hU, hB, h1, h2, h3, h4, h5, h6⟩ := h.up
  have HG := hU.get key (by omega)
  have k1 : wr.cell? ⟨rb, 1, none⟩ = some (.pointer (some ⟨sb, 0, none⟩)) := hB.cell 1
  cases hge : getE R key with
  | none =>
    have HG1 : Hid (Calls Tryz.prog 111 #[.pointer (some ⟨sb, 0, none⟩), .string key] wr fun e w' => e = .returned (.tuple #[.string ⟨#[]⟩, .bool false, .nilIface]) ∧ Ext wr w') := HG.mono fun _ _ hh => ⟨by rw [hh.1, hge]; rfl, hh.2⟩
    have HT : Hid (∀ W v, Calls Tryz.prog 28 #[.iface 39 (.int .i64 5), v] W fun e w' => e = .returned (.string (errT 5)) ∧ W = w') := fun W v => told_err 5 v W (by decide)
    have hr : getT R key = errT 5 := by unfold getT; rw [hge]
    rw [hr]
    clear HG hU hB h hpl hge hr
    generalize errT 5 = T at *
    go_enter Tryz.func63, Tryz.ntmps63
    go_wp2_with (first
      | (go_at_call 111; refine HG1.out.mono ?_; rintro e w1 ⟨rfl, hx1⟩)
      | (go_at_call 28; refine (HT.out _ _).mono ?_; rintro e w2 ⟨rfl, rfl⟩))
    go_ret
    exact ⟨rfl, hx1.alloc _⟩
  | some e =>
    have hm := (getE_mem hge).1
    have hgo := hpl.2.1 e hm
    have hv16 := (fault_zero (hpl.2.2 e hm)).2
    have HG1 : Hid (Calls Tryz.prog 111 #[.pointer (some ⟨sb, 0, none⟩), .string key] wr fun e' w' => e' = .returned (.tuple #[.string e.val, .bool true, .nilIface]) ∧ Ext wr w') := HG.mono fun _ _ hh => ⟨by rw [hh.1, hge, getR_has hgo], hh.2⟩
    have hr : getT R key = ⟨#[61]⟩ ++ e.val := by unfold getT; rw [hge]
    rw [hr]
    have hvs : e.val.size ≤ 16 := by omega
    have HT : Hid (∀ W b, Blk W b #[.string (⟨#[61]⟩ ++ e.val)] 9 → Calls Tryz.prog 28 #[.nilIface, .slice (some ⟨b, 0, none⟩) 1 1] W fun e' w' => e' = .returned (.string (⟨#[61]⟩ ++ e.val)) ∧ Ext W w') := fun W b hb => told_one b _ W hb (by rw [ba_size_app]; have : (⟨#[61]⟩ : ByteArray).size = 1 := rfl; omega)
    clear HG hU hB h hpl hge hr hm hgo hv16
    generalize e.val = v at *
    go_enter Tryz.func63, Tryz.ntmps63
    go_wp2_with (first
      | (go_at_call 111; refine HG1.out.mono ?_; rintro e' w1 ⟨rfl, hx1⟩)
      | (go_at_call 28; refine (HT.out _ _ (Blk.new _ _ _)).mono ?_; rintro e' w2 ⟨rfl, hx2⟩))
    go_ret
    exact ⟨rfl, (hx1.alloc _).trans hx2⟩
end Go.Proofs.YtkibgflbidkalaaGreatDoor

/- A session in memory: rows, some at a time; opened anew. -/
namespace Go.Proofs.YtkibgflbidkalaaGreatDoor
open Go.RowKit Go.WideShapes

theorem pgE_small {R : List Ent} (h : R.length ≤ 40) (after : ByteArray) (many : Int) : (pgE R after many).length ≤ 40 := by
  unfold pgE
  rw [List.length_take]
  have := List.length_filter_le (fun e : Ent => Op.bytesLess after.toList e.key.toList) R
  omega
theorem pgE_mem {R : List Ent} {after : ByteArray} {many : Int} {e : Ent} (h : e ∈ pgE R after many) : e ∈ R := by
  unfold pgE at h
  exact (List.mem_filter.1 (List.mem_of_mem_take h)).1
theorem Sls.ge {W0 w : World} {v : Value} {xs : List ByteArray} (h : Sls W0 w v xs) : ∃ ao cap, v = .slice ao xs.length cap ∧ xs.length ≤ cap ∧ ∀ b off, ao = some ⟨b, off, none⟩ → b < w.heap.size := by
  obtain ⟨hlen, hcase⟩ := h.own
  rcases hcase with ⟨rfl, h0⟩ | ⟨g, cap, cur, rfl, _, hh, hle, _, hc, htake⟩
  · have : xs = [] := List.eq_nil_of_length_eq_zero h0
    subst this
    exact ⟨none, 0, rfl, Nat.le_refl _, fun b off e => by cases e⟩
  · refine ⟨_, cap, rfl, by omega, fun b off e => ?_⟩
    cases e
    exact lt_of_block hh
set_option maxRecDepth 20000 in
set_option maxHeartbeats 4000000 in
theorem sess_page {w wr : World} {rb n : Nat} {g : Option (Nat × Obj)} {R : List Ent} (h : Ses w wr rb n g R) (after : ByteArray) (many : Int) :
    Calls Tryz.prog 59 #[.pointer (some ⟨rb, 0, none⟩), .string after, .int .i64 many] wr fun e w' => e = .returned (.string (rowsT (pgE R after many))) ∧ Ext wr w' := by
  have hpl := h.plain
  have hfew := h.few
  obtain ⟨S, m, cb, sb, hU, hB, h1, h2, h3, h4, h5, h6⟩ := h.up
  have k1 : wr.cell? ⟨rb, 1, none⟩ = some (.pointer (some ⟨sb, 0, none⟩)) := hB.cell 1
  have HP : Hid (Calls Tryz.prog 100 #[.pointer (some ⟨sb, 0, none⟩), .string after, .int .i64 many] wr fun e w' => ∃ po pc, e = .returned (.tuple #[.slice po (pgE R after many).length pc, .nilIface]) ∧ EntsAt w' po (pgE R after many) ∧ Ext wr w') := (page_any n wr S sb cb m 0 R after many hU).mono fun _ w' hh => by
    obtain ⟨po, pc, h1, h2, h3, _⟩ := hh.ex
    exact ⟨po, pc, h1, h2, h3⟩
  have hl40 := pgE_small hfew after many
  have HSM : Hid (∀ e ∈ pgE R after many, e.key.size ≤ 8 ∧ e.val.size ≤ 16) := fun e he => fault_zero (hpl.2.2 e (pgE_mem he))
  clear hU hB h hpl hfew
  generalize pgE R after many = P at *
  have HLZ : Hid ((linesT (P.take P.length)).size ≤ 26 * P.length) := linesT_size HSM.out P.length
  go_enter Tryz.func59, Tryz.ntmps59
  go_wp2_with (go_at_call 100; refine HP.out.mono ?_; rintro e w1 ⟨po, pc, rfl, hE1, hx1⟩)
  have HE1 : Hid (EntsAt w1 po P) := hE1
  clear hE1 HP k1
  go_loopw [9, 24] (fun v i wx => ∃ (k : Nat), k ≤ P.length ∧ i = .int .i64 k ∧ Sls w1 wx v ((P.take k).map rowE)) (fun _ i _ => P.length - (intOf i).toNat)
  case atStart => exact ⟨0, Nat.zero_le _, rfl, Sls.nil (Ext.refl _)⟩
  case round =>
    obtain ⟨k, hk, rfl, hL⟩ := hrel
    by_cases hlt : k < P.length
    · obtain ⟨b, off, key, val, gone, rfl, he, g1, g2, g3⟩ := (HE1.out.ext hL.ext).get hlt
      obtain ⟨hk8, hv16⟩ := HSM.out _ (List.mem_of_getElem? he)
      dsimp only at hk8 hv16
      have HST : Hid ((P.take (k + 1)).map rowE = (P.take k).map rowE ++ [rowE ⟨key, val, gone⟩]) := by
        rw [Hid, List.take_add_one, he]; simp
      have HLN : Hid (((P.take k).map rowE).length ≤ 100000) := by rw [Hid]; simp; omega
      have hkl : (k : Int) < (P.length : Int) := by omega
      have HRE : Hid (rowE ⟨key, val, gone⟩ = key ++ ⟨#[61]⟩ ++ val) := rfl
      clear he HLZ HSM
      generalize (P.take k).map rowE = done at *
      generalize rowE ⟨key, val, gone⟩ = row at *
      go_wp2_with (at_builtin; refine wpList_app_str rfl _ _ rfl w1 _ done rfl ?c1 _ row rfl ?c2 ?c3 ?_)
      case c1 => exact (hL.alloc _).alloc _
      case c2 => rw [HRE.out]; exact Blk.new' _ _ _ (by first | rfl | simp)
      case c3 => exact HLN.out
      intro v2 w2 hL2
      go_wp2
      go_roundw
      case rel => exact ⟨k + 1, by omega, by go_num, by rw [HST.out]; exact hL2⟩
      case measure => simp [intOf]; omega
    · rw [List.take_of_length_le (by omega)] at hL
      have hlen : (P.map rowE).length = P.length := by simp
      by_cases hne : P = []
      · subst hne
        obtain ⟨ao, cap, hv, _⟩ := hL.ge
        subst hv
        have HX := hL.ext
        have HT : Hid (∀ W b, Blk W b #[.string ⟨#[45]⟩] 9 → Calls Tryz.prog 28 #[.nilIface, .slice (some ⟨b, 0, none⟩) 1 1] W fun e' w' => e' = .returned (.string ⟨#[45]⟩) ∧ Ext W w') := fun W b hb => told_one b _ W hb (by decide)
        clear hL HLZ HSM HE1
        go_wp2_with (go_at_call 28; refine (HT.out _ _ (Blk.new _ _ _)).mono ?_; rintro e' w2 ⟨rfl, hx2⟩)
        go_ret
        exact ⟨rfl, ((hx1.trans HX).alloc _).trans hx2⟩
      · have hp0 : 0 < P.length := List.length_pos_iff.2 hne
        obtain ⟨ao, cap, hv, hcap, hbb⟩ := hL.ge
        obtain ⟨ao', cap', hv', hS⟩ := hL.at
        rw [hv] at hv'
        cases hv'
        obtain ⟨b, off, rfl, hc⟩ := hS (fun e => by rw [e] at hlen; simp at hlen; omega)
        rw [hlen] at hv
        subst hv
        have HX := hL.ext
        have HR : Hid (rowsT P = linesT P) := rowsT_some hne
        have HT : Hid (Calls Tryz.prog 28 #[.nilIface, .slice (some ⟨b, off, none⟩) P.length cap] wr fun e' w' => e' = .returned (.string (linesT P)) ∧ Ext wr w') := by
          have := told_nil b off cap (P.map rowE) wr hc (hbb b off rfl) (by omega) hcap (by
            have h2 := HLZ.out
            rw [List.take_length] at h2
            rw [Lib.size_eq] at h2
            have e : (linesT P).data.toList = Lib.join (((P.map rowE)).map (·.data.toList)) [32] := by simp [linesT]
            rw [e] at h2
            omega)
          rw [hlen] at this
          exact this
        have hpi : ((P.length : Int) == 0) = false := by rw [beq_eq_false_iff_ne]; omega
        clear hL HLZ HSM HE1 hS hc hne hbb
        generalize linesT P = T at *
        go_wp2_with (go_at_call 28; refine HT.out.mono ?_; rintro e' w2 ⟨rfl, hx2⟩)
        go_ret
        exact ⟨by rw [HR.out]; rfl, (hx1.trans HX).trans hx2⟩
end Go.Proofs.YtkibgflbidkalaaGreatDoor

/- A session in memory: opened anew, behind a fall that was none. -/
namespace Go.Proofs.YtkibgflbidkalaaGreatDoor
open Go.RowKit Go.WideShapes

set_option maxRecDepth 20000 in
set_option maxHeartbeats 2000000 in
theorem sess_open {w wr : World} {rb n : Nat} {g : Option (Nat × Obj)} {M : CM} {m : Man} {a : Nat} {hand : List Ent} {N O : List Tb} {cb : Nat} {v : Value} (hc : ChipAt wr cb M) (hg : GlobT wr) (hI : Inv n M m a hand N O) (hB : Blk wr rb #[.pointer (some ⟨cb, 0, none⟩), v] 45)
    (hne : ¬ rb = cb) (hgc : ¬ 1 = cb) (hgr : ¬ 1 = rb) (hcb : w.heap.size ≤ cb) (hrb : w.heap.size ≤ rb) (hx : Ext w wr) (ha : Asd wr [cb] rb g) :
    Calls Tryz.prog 11 #[.pointer (some ⟨rb, 0, none⟩)] wr fun e w' => e = .returned .nilIface ∧ SesX w w' rb n g M m a hand N O := by
  have hlt := hB.lt
  have hz := hx.size
  have HO : Hid (Calls Tryz.prog 27 #[.pointer (some ⟨cb, 0, none⟩)] wr fun e w' => ∃ tb, e = .returned (.tuple #[.pointer (some ⟨tb, 0, none⟩), .nilIface]) ∧ Ext wr w' ∧ SesX w (w'.setCell ⟨rb, 1, none⟩ (.pointer (some ⟨tb, 0, none⟩))) rb n g M m a hand N O) := (open_any n wr cb M m a hand N O hc hg hgc hc.lt hI).mono fun _ w' hh => by
    obtain ⟨tb, T, x, q1, q2, q3, q4, q5⟩ := hh.ex
    have hrT : rb ∉ T := fun hm => by
      rcases q5 _ hm with h | h
      · exact hne h
      · omega
    have hT : ∀ b ∈ T, w.heap.size ≤ b := fun b hb => by
      rcases q5 _ hb with h | h
      · omega
      · omega
    have hK : Kp w' (w'.setCell ⟨rb, 1, none⟩ (.pointer (some ⟨tb, 0, none⟩))) [rb] := Kp.set w' (by simp) _
    have hA : Asd (w'.setCell ⟨rb, 1, none⟩ (.pointer (some ⟨tb, 0, none⟩))) T rb g := ((ha.sub (S' := T) (fun b hb => by rcases q5 b hb with h | h; exact .inl (by simp [h]); exact .inr h)).ext q4).set 1 _
    refine ⟨tb, q1, q4, ⟨T, cb, tb, x, q2.kp hI.nst.up hK (fun b hb hm => ?_) (fun hm => ?_), q3, hI, ?_, hrT, hT, hA⟩, hrb, hgr, Kp.ext (hx.trans q4) hK (fun b hb => ?_)⟩
    · simp at hm; subst hm; exact hrT hb
    · simp at hm; exact hgr hm
    · exact (hB.ext q4).set 1 (.pointer (some ⟨tb, 0, none⟩))
    · simp at hb; omega
  have HB : Hid (∀ W, Ext wr W → W.cell? ⟨rb, 1, none⟩ = some v ∧ W.frozen? ⟨rb, 1, none⟩ = false) := fun W hx => ⟨(hB.ext hx).cell 1, (hB.ext hx).free 1⟩
  have k0 : wr.cell? ⟨rb, 0, none⟩ = some (.pointer (some ⟨cb, 0, none⟩)) := hB.cell 0
  clear hc hg hI hB hx ha
  go_enter Tryz.func11, Tryz.ntmps11
  go_wp2_with (go_at_call 27; refine HO.out.mono ?_; rintro e w1 ⟨tb, rfl, hx1, hS1⟩; have HS1 : Hid (SesX w (w1.setCell ⟨rb, 1, none⟩ (.pointer (some ⟨tb, 0, none⟩))) rb n g M m a hand N O) := hS1; clear hS1; obtain ⟨z1, z2⟩ := HB.out _ hx1)
  go_ret
  exact ⟨rfl, HS1.out⟩
structure SesC (w wr : World) (rb n : Nat) (g : Option (Nat × Obj)) (M : CM) (m : Man) (a : Nat) (hand : List Ent) (N O : List Tb) : Prop where
  ex : ∃ cb v, ChipAt wr cb M ∧ GlobT wr ∧ Inv n M m a hand N O ∧ Blk wr rb #[.pointer (some ⟨cb, 0, none⟩), v] 45 ∧ ¬ rb = cb ∧ ¬ 1 = cb ∧ w.heap.size ≤ cb ∧ Asd wr [cb] rb g
  ge : w.heap.size ≤ rb
  gl : ¬ 1 = rb
  x : Ext w wr
theorem SesX.c {w wr : World} {rb n : Nat} {g : Option (Nat × Obj)} {M : CM} {m : Man} {a : Nat} {hand : List Ent} {N O : List Tb} (h : SesX w wr rb n g M m a hand N O) : SesC w wr rb n g M m a hand N O := by
  obtain ⟨S, cb, sb, x, h1, h2, h3, h4, h5, h6, h7⟩ := h.ex
  exact ⟨⟨cb, _, h1.chip, h1.glob, h3, h4, fun e => h5 (e ▸ h1.cS.1), fun e => h1.gS (e ▸ h1.cS.1), h6 _ h1.cS.1, h7.sub fun b hb => .inl (by simp at hb; subst hb; exact h1.cS.1)⟩, h.ge, h.gl, h.x⟩
theorem SesC.open {w wr : World} {rb n : Nat} {g : Option (Nat × Obj)} {M : CM} {m : Man} {a : Nat} {hand : List Ent} {N O : List Tb} (h : SesC w wr rb n g M m a hand N O) :
    Calls Tryz.prog 11 #[.pointer (some ⟨rb, 0, none⟩)] wr fun e w' => e = .returned .nilIface ∧ SesX w w' rb n g M m a hand N O := by
  obtain ⟨cb, v, h1, h2, h3, h4, h5, h6, h7, h8⟩ := h.ex
  exact sess_open h1 h2 h3 h4 h5 h6 h.gl h7 h.ge h.x h8
theorem Ses.open {w wr : World} {rb n : Nat} {g : Option (Nat × Obj)} {R : List Ent} (h : Ses w wr rb n g R) :
    Calls Tryz.prog 11 #[.pointer (some ⟨rb, 0, none⟩)] wr fun e w' => e = .returned .nilIface ∧ Ses w w' rb n g R := by
  obtain ⟨M, m, a, hand, N, O, h1, h2⟩ := h.ex
  exact h1.c.open.mono fun _ _ hh => ⟨hh.1, M, m, a, hand, N, O, hh.2, h2⟩
theorem Ses.restart {w wr : World} {rb n : Nat} {g : Option (Nat × Obj)} {R : List Ent} (h : Ses w wr rb n g R) (hn : n ≤ 100000) (how : Int) :
    ∃ cb, wr.cell? ⟨rb, 0, none⟩ = some (.pointer (some ⟨cb, 0, none⟩)) ∧ Calls Tryz.prog 67 #[.pointer (some ⟨cb, 0, none⟩), .int .i64 how] wr fun e w' => e = .returned (.tuple #[]) ∧ Ses w w' rb n g R := by
  obtain ⟨M, m, a, hand, N, O, ⟨⟨S, cb, sb, x, h1, h2, hi, h3, h4, h5, ha⟩, h6, h7, h8⟩, h9, h10, h11⟩ := h.ex
  refine ⟨cb, h3.cell 0, (restart_any cb how M wr h1.chip (fun b _ => by have := hi.wr b; omega)).mono fun e w' hh => ⟨hh.1, ?_⟩⟩
  have hM : restartM M how = M := by
    unfold restartM
    rw [hi.nst.up]
    cases M
    simp at h10
    subst h10
    have := hi.nst.up
    simp at this
    subst this
    rfl
  rw [hM] at hh
  have hK : Kp wr w' [cb] := Kp.grown hh.2.2
  refine ⟨M, m, a, hand, N, O, ⟨⟨S, cb, sb, x, h1.chg hK hh.2.1, h2, hi, hK.Blk h3 (fun hm => ?_), h4, h5, ha.kp (hK.mono fun b hb => by simp at hb; subst hb; exact h1.cS.1) (fun b hb => .inl hb)⟩, h6, h7, Kp.ext h8 hK (fun b hb => ?_)⟩, h9, h10, h11⟩
  · simp at hm; subst hm; exact h4 h1.cS.1
  · simp at hb; subst hb; exact h5 _ h1.cS.1
theorem Ses.flush {w wr : World} {rb n : Nat} {g : Option (Nat × Obj)} {R : List Ent} (h : Ses w wr rb n g R) (hn : n ≤ 80000) :
    ∃ sb, wr.cell? ⟨rb, 1, none⟩ = some (.pointer (some ⟨sb, 0, none⟩)) ∧ Calls Tryz.prog 60 #[.pointer (some ⟨sb, 0, none⟩)] wr fun e w' => e = .returned .nilIface ∧ Ses w w' rb (n + 9) g R := by
  obtain ⟨S, m, cb, sb, hU, hB, h1, h2, h3, h4, h5, h6⟩ := h.up
  exact ⟨sb, hB.cell 1, (hU.flush hn).mono fun _ _ hh => ⟨hh.1, hh.2.ses hB h1 h2 h3 h4 h5 h6⟩⟩
theorem Ses.compact {w wr : World} {rb n : Nat} {g : Option (Nat × Obj)} {R : List Ent} (h : Ses w wr rb n g R) (hn : n ≤ 80000) :
    ∃ sb, wr.cell? ⟨rb, 1, none⟩ = some (.pointer (some ⟨sb, 0, none⟩)) ∧ Calls Tryz.prog 61 #[.pointer (some ⟨sb, 0, none⟩)] wr fun e w' => e = .returned .nilIface ∧ Ses w w' rb (n + 9) g R := by
  obtain ⟨S, m, cb, sb, hU, hB, h1, h2, h3, h4, h5, h6⟩ := h.up
  exact ⟨sb, hB.cell 1, (hU.compact hn).mono fun _ _ hh => ⟨hh.1, (hh.2.ses hB h1 h2 h3 h4 h5 h6).le (by omega)⟩⟩
end Go.Proofs.YtkibgflbidkalaaGreatDoor

/- A session's lines: plain words; how a line is parted. -/
namespace Go.Proofs.YtkibgflbidkalaaGreatDoor
open Go.RowKit Go.WideShapes

theorem split_count : ∀ (n : Nat) (s : ByteArray), s.size ≤ n → (splitL s.data.toList).length = Lib.countB s ⟨#[32]⟩ + 1
  | 0, s, h => by
    have e : s.data.toList = [] := List.eq_nil_of_length_eq_zero (by rw [← Lib.size_eq]; omega)
    have hm : Lib.countB s ⟨#[32]⟩ = 0 := Lib.countB_miss s _ (by
      show Lib.index s.data.toList [32] = -1
      rw [e]; rfl)
    rw [e, hm]; rfl
  | n + 1, s, h => by
    rcases first_sign 32 s.data.toList with hh | ⟨x, r, e, hh⟩
    · have hm : Lib.countB s ⟨#[32]⟩ = 0 := Lib.countB_miss s _ (idx_none 32 _ hh)
      rw [splitL_none _ hh, hm]; rfl
    · have hi : Lib.indexB s ⟨#[32]⟩ = (x.length : Nat) := by
        show Lib.index s.data.toList [32] = _
        rw [e, idx_some 32 x r hh]
      have hm := Lib.countB_hit s ⟨#[32]⟩ x.length (by decide) hi
      have hl : s.size = x.length + (r.length + 1) := by rw [Lib.size_eq, e]; simp
      have e2 : (s.extract (x.length + 1) s.size).data.toList = r := by
        rw [toL_take, List.take_of_length_le (by rw [← Lib.size_eq]; omega), e]
        rw [show x ++ 32 :: r = (x ++ [32]) ++ r by simp, List.drop_append_of_le_length (by simp)]
        simp
      have ih := split_count n (s.extract (x.length + 1) s.size) (by rw [Lib.size_eq, e2]; omega)
      rw [e2] at ih
      rw [e, splitL_some x r hh, List.length_cons, ih, hm]
      show _ = 1 + Lib.countB (s.extract (x.length + 1) s.size) ⟨#[32]⟩ + 1
      omega
theorem split_words (s : ByteArray) : Lib.splitB ⟨#[32]⟩ 0 (Lib.countB s ⟨#[32]⟩) s = wordsL s ∧ (wordsL s).length = Lib.countB s ⟨#[32]⟩ + 1 := by
  have h := split_count s.size s (Nat.le_refl _)
  have hd := Lib.splitB_data ⟨#[32]⟩ 0 (Lib.countB s ⟨#[32]⟩) s
  refine ⟨?_, by simp [wordsL, h]⟩
  rw [map_ba_eq hd]
  unfold wordsL
  show (Lib.splitK [32] 0 (Lib.countB s ⟨#[32]⟩) s.data.toList).map _ = _
  rw [(splitK_L _ _).2 (by omega)]
def isW (s : ByteArray) : Bool := Lib.hasPrefix s.data.toList [119, 114, 105, 116, 101, 32]
theorem isW_words {s : ByteArray} (h : isW s = true) : ∃ b r, wordsL s = ⟨#[119, 114, 105, 116, 101]⟩ :: b :: r ∧ (Lib.trimPrefix s.data.toList [119, 114, 105, 116, 101, 32]).toArray = (s.extract 6 s.size).data := by
  unfold isW at h
  have h' := h
  unfold Lib.hasPrefix at h
  rw [List.isPrefixOf_iff_prefix] at h
  obtain ⟨r, hr⟩ := h
  have e : s.data.toList = [119, 114, 105, 116, 101] ++ 32 :: r := by rw [← hr]; rfl
  obtain ⟨y, ys, hy⟩ : ∃ y ys, splitL r = y :: ys := by
    cases hh : splitL r with
    | nil => exact absurd hh (splitL_ne r)
    | cons y ys => exact ⟨y, ys, rfl⟩
  refine ⟨⟨y.toArray⟩, ys.map (fun l => ⟨l.toArray⟩), ?_, ?_⟩
  · unfold wordsL
    rw [e, splitL_some _ _ (by decide), hy]
    rfl
  · unfold Lib.trimPrefix
    rw [if_pos h']
    apply Array.ext'
    rw [List.toList_toArray]
    have := toL_take s 6 s.size
    rw [this, List.take_of_length_le (by rw [← Lib.size_eq]; omega)]
    rfl
theorem words_isW {s a : ByteArray} {b : ByteArray} {r : List ByteArray} (h : wordsL s = a :: b :: r) (ha : (a.toList == [119, 114, 105, 116, 101]) = true) : isW s = true := by
  have ha' := eq_of_beq ha
  rw [ByteArray.toList_eq] at ha'
  unfold wordsL at h
  rcases first_sign 32 s.data.toList with hh | ⟨x, q, e, hh⟩
  · rw [splitL_none _ hh] at h
    simp at h
  · rw [e, splitL_some x q hh, List.map_cons] at h
    have hx : (⟨x.toArray⟩ : ByteArray) = a := (List.cons.inj h).1
    have hx' : x = [119, 114, 105, 116, 101] := by rw [← ha', ← hx]
    unfold isW Lib.hasPrefix
    rw [List.isPrefixOf_iff_prefix, e, hx']
    exact ⟨q, rfl⟩
theorem words_one {s a : ByteArray} (h : wordsL s = [a]) : a = s := by
  unfold wordsL at h
  rcases first_sign 32 s.data.toList with hh | ⟨x, q, e, hh⟩
  · rw [splitL_none _ hh] at h
    have := (List.cons.inj h).1
    rw [← this]
  · rw [e, splitL_some x q hh, List.map_cons] at h
    exact absurd (List.map_eq_nil_iff.1 (List.cons.inj h).2) (splitL_ne q)
theorem words_two {s a b : ByteArray} {r : List ByteArray} (h : wordsL s = a :: b :: r) : ∃ q, s.data.toList = a.data.toList ++ 32 :: q := by
  unfold wordsL at h
  rcases first_sign 32 s.data.toList with hh | ⟨x, q, e, hh⟩
  · rw [splitL_none _ hh] at h
    simp at h
  · rw [e, splitL_some x q hh, List.map_cons] at h
    have hx : (⟨x.toArray⟩ : ByteArray) = a := (List.cons.inj h).1
    exact ⟨q, by rw [e, ← hx]⟩
theorem words_some (s : ByteArray) : ∃ a r, wordsL s = a :: r := by
  cases h : splitL s.data.toList with
  | nil => exact absurd h (splitL_ne _)
  | cons y ys => exact ⟨_, _, by unfold wordsL; rw [h]; rfl⟩
def oneA (R : List Ent) (a : ByteArray) : ByteArray :=
  if (a.toList == [114, 111, 119, 115]) = true then rowsT (pgE R ⟨#[]⟩ 40) else if (a.toList == [102, 108, 117, 115, 104]) = true then okT else if (a.toList == [99, 111, 109, 112, 97, 99, 116]) = true then okT else if (a.toList == [111, 112, 101, 110]) = true then okT else errT 4
def twoA (R : List Ent) (a b : ByteArray) : ByteArray :=
  if (a.toList == [103, 101, 116]) = true then getT R b else match numO b with
    | none => errT 4
    | some _ => if (a.toList == [114, 101, 115, 116, 97, 114, 116]) = true then okT else errT 4
def threeA (R : List Ent) (a b c : ByteArray) : ByteArray :=
  match numO c with
  | none => errT 4
  | some n => if (a.toList == [112, 97, 103, 101]) = true then rowsT (pgE R b (n : Int)) else errT 4
def wordsA (R : List Ent) : List ByteArray → ByteArray
  | [a] => oneA R a
  | [a, b] => twoA R a b
  | [a, b, c] => threeA R a b c
  | _ => errT 4
def wrtT (f : Int) : ByteArray := if f = 0 then okT else errT f.toNat
def ansE (R : List Ent) (s : ByteArray) : ByteArray :=
  if 60 < s.size then errT 4 else if isW s = true then wrtT (wrtF R (s.extract 6 s.size)) else wordsA R (wordsL s)
def ansR (R : List Ent) (s : ByteArray) : List Ent :=
  if 60 < s.size then R else if isW s = true then wrtR R (s.extract 6 s.size) else R
end Go.Proofs.YtkibgflbidkalaaGreatDoor

/- A session's lines, answered. -/
namespace Go.Proofs.YtkibgflbidkalaaGreatDoor
open Go.RowKit Go.WideShapes

theorem errV_cases (f : Int) : (f = 0 ∧ errV f = .nilIface) ∨ (¬ f = 0 ∧ errV f = .iface 39 (.int .i64 f)) := by
  by_cases h : f = 0
  · exact .inl ⟨h, by subst h; rfl⟩
  · exact .inr ⟨h, by unfold errV; rw [if_neg h]⟩
theorem told_f (f : Int) (h0 : 0 ≤ f) (h9 : f < 10) (b : Nat) (w : World) (hb : Blk w b #[.string okT] 9) :
    Calls Tryz.prog 28 #[errV f, .slice (some ⟨b, 0, none⟩) 1 1] w fun e w' => e = .returned (.string (wrtT f)) ∧ Ext w w' := by
  rcases errV_cases f with ⟨h, h'⟩ | ⟨h, h'⟩
  · rw [h']
    unfold wrtT
    rw [if_pos h]
    exact told_one b okT w hb (by decide)
  · rw [h']
    unfold wrtT
    rw [if_neg h]
    have := told_err f.toNat (.slice (some ⟨b, 0, none⟩) 1 1) w (by omega)
    rw [Int.toNat_of_nonneg h0] at this
    exact this.mono fun _ _ hh => ⟨hh.1, by rw [hh.2]; exact Ext.refl _⟩
theorem told_4 (w : World) (v : Value) : Calls Tryz.prog 28 #[.iface 39 (.int .i64 4), v] w fun e w' => e = .returned (.string (errT 4)) ∧ w = w' := told_err 4 v w (by decide)
theorem told_ok (w : World) (b : Nat) (hb : Blk w b #[.string ⟨#[111, 107]⟩] 9) : Calls Tryz.prog 28 #[.nilIface, .slice (some ⟨b, 0, none⟩) 1 1] w fun e w' => e = .returned (.string okT) ∧ Ext w w' := told_one b okT w hb (by decide)
section
variable {wr : World} {rb : Nat} {P : World → Prop}
set_option maxRecDepth 20000 in
set_option maxHeartbeats 2000000 in
theorem answer_long (s : ByteArray) (hs : 60 < s.size) (hl : s.size ≤ 1000) :
    Calls Tryz.prog 12 #[.pointer (some ⟨rb, 0, none⟩), .string s] wr fun e w' => e = .returned (.string (errT 4)) ∧ Ext wr w' := by
  have HT : Hid (∀ W v, Calls Tryz.prog 28 #[.iface 39 (.int .i64 4), v] W fun e w' => e = .returned (.string (errT 4)) ∧ W = w') := fun W v => told_4 W v
  have h60 : (60 : Int) < (s.size : Int) := by omega
  generalize errT 4 = T at *
  go_enter Tryz.func12, Tryz.ntmps12
  go_wp2_with (go_at_call 28; refine (HT.out _ _).mono ?_; rintro e w1 ⟨rfl, rfl⟩)
  go_ret
  exact ⟨rfl, Ext.refl _⟩
set_option maxRecDepth 20000 in
set_option maxHeartbeats 2000000 in
theorem answer_write (s : ByteArray) (f : Int) (hs : s.size ≤ 60) (hw : isW s = true) (hP : ∀ W W', P W → Ext W W' → P W') (h0 : 0 ≤ f) (h9 : f < 10)
    (HW : Calls Tryz.prog 30 #[.pointer (some ⟨rb, 0, none⟩), .string (s.extract 6 s.size)] wr fun e w' => e = .returned (errV f) ∧ P w') :
    Calls Tryz.prog 12 #[.pointer (some ⟨rb, 0, none⟩), .string s] wr fun e w' => e = .returned (.string (wrtT f)) ∧ P w' := by
  have HC : Hid (Calls Tryz.prog 29 #[.string s, .string ⟨#[119, 114, 105, 116, 101, 32]⟩] wr fun e w' => e = .returned (.tuple #[.string (s.extract 6 s.size), .bool true]) ∧ wr = w') := (Tryz.strings_CutPrefix s ⟨#[119, 114, 105, 116, 101, 32]⟩ wr).mono fun _ _ h => by
    obtain ⟨b, r, _, h2⟩ := isW_words hw
    refine ⟨?_, h.2.symm⟩
    rw [h.1]
    have e1 : Lib.hasPrefix s.data.toList (⟨#[119, 114, 105, 116, 101, 32]⟩ : ByteArray).data.toList = true := hw
    have e2 : (⟨(Lib.trimPrefix s.data.toList (⟨#[119, 114, 105, 116, 101, 32]⟩ : ByteArray).data.toList).toArray⟩ : ByteArray) = s.extract 6 s.size := by
      show (⟨(Lib.trimPrefix s.data.toList [119, 114, 105, 116, 101, 32]).toArray⟩ : ByteArray) = _
      rw [h2]
    rw [e1, e2]
  have HT : Hid (∀ W b, Blk W b #[.string ⟨#[111, 107]⟩] 9 → Calls Tryz.prog 28 #[errV f, .slice (some ⟨b, 0, none⟩) 1 1] W fun e w' => e = .returned (.string (wrtT f)) ∧ Ext W w') := fun W b hb => told_f f h0 h9 b W hb
  have HW' : Hid (Calls Tryz.prog 30 #[.pointer (some ⟨rb, 0, none⟩), .string (s.extract 6 s.size)] wr fun e w' => e = .returned (errV f) ∧ P w') := HW
  have HP : Hid (∀ W W', P W → Ext W W' → P W') := hP
  have h60 : ¬ (60 : Int) < (s.size : Int) := by omega
  clear HW hP hw
  generalize s.extract 6 s.size = t at *
  generalize errV f = ev at *
  generalize wrtT f = T at *
  go_enter Tryz.func12, Tryz.ntmps12
  go_wp2_with (first
    | (go_at_call 29; refine HC.out.mono ?_; rintro e w1 ⟨rfl, rfl⟩)
    | (go_at_call 30; refine HW'.out.mono ?_; rintro e w2 ⟨rfl, hp2⟩)
    | (go_at_call 28; refine (HT.out _ _ (Blk.new _ _ _)).mono ?_; rintro e w3 ⟨rfl, hx3⟩))
  go_ret
  exact ⟨rfl, HP.out _ _ hp2 (((Ext.refl _).alloc _).trans hx3)⟩
structure PartE (W w' : World) (e : Ending) (ws : List ByteArray) : Prop where
  ex : e = .returned (.slice (some ⟨W.heap.size, 0, none⟩) ws.length ws.length) ∧ Blk w' W.heap.size (ws.map Value.string).toArray 9 ∧ Ext W w'
theorem split_any (s : ByteArray) (W : World) (hs : s.size ≤ 1000) (hg : Tryz.Glob W) : Calls Tryz.prog 31 #[.string s, .string ⟨#[32]⟩] W fun e w' => PartE W w' e (wordsL s) := by
  obtain ⟨m, hm⟩ := hg
  obtain ⟨h1, h2⟩ := split_words s
  refine (Tryz.strings_Split s ⟨#[32]⟩ m W (by omega) hm (by decide)).mono fun e w' hh => ?_
  rw [h1, ← h2] at hh
  obtain ⟨q1, rfl⟩ := hh
  exact ⟨q1, Blk.new _ _ _, (Ext.refl _).alloc _⟩
theorem cut_no (s : ByteArray) (W : World) (h : isW s = false) : Calls Tryz.prog 29 #[.string s, .string ⟨#[119, 114, 105, 116, 101, 32]⟩] W fun e w' => (∃ t, e = .returned (.tuple #[.string t, .bool false])) ∧ W = w' := (Tryz.strings_CutPrefix s ⟨#[119, 114, 105, 116, 101, 32]⟩ W).mono fun _ _ hh => by
  have e1 : Lib.hasPrefix s.data.toList (⟨#[119, 114, 105, 116, 101, 32]⟩ : ByteArray).data.toList = false := h
  rw [e1] at hh
  exact ⟨⟨_, hh.1⟩, hh.2.symm⟩
set_option maxRecDepth 20000 in
set_option maxHeartbeats 2000000 in
theorem answer_one (s a : ByteArray) (T : ByteArray) (hs : s.size ≤ 60) (hw : isW s = false) (hg : Tryz.Glob wr) (ha : wordsL s = [a])
    (HA : ∀ W, Ext wr W → Calls Tryz.prog 32 #[.pointer (some ⟨rb, 0, none⟩), .string a] W fun e w' => e = .returned (.string T) ∧ P w') :
    Calls Tryz.prog 12 #[.pointer (some ⟨rb, 0, none⟩), .string s] wr fun e w' => e = .returned (.string T) ∧ P w' := by
  have HC : Hid (Calls Tryz.prog 29 #[.string s, .string ⟨#[119, 114, 105, 116, 101, 32]⟩] wr fun e w' => (∃ t, e = .returned (.tuple #[.string t, .bool false])) ∧ wr = w') := cut_no s wr hw
  have HS : Hid (Calls Tryz.prog 31 #[.string s, .string ⟨#[32]⟩] wr fun e w' => e = .returned (.slice (some ⟨wr.heap.size, 0, none⟩) 1 1) ∧ w'.cell? ⟨wr.heap.size, 0, none⟩ = some (.string a) ∧ Ext wr w') := (split_any s wr (by omega) hg).mono fun _ _ hh => by
    have hh := hh.ex
    rw [ha] at hh
    exact ⟨hh.1, hh.2.1.cell 0, hh.2.2⟩
  have HA' : Hid (∀ W, Ext wr W → Calls Tryz.prog 32 #[.pointer (some ⟨rb, 0, none⟩), .string a] W fun e w' => e = .returned (.string T) ∧ P w') := HA
  have h60 : ¬ (60 : Int) < (s.size : Int) := by omega
  clear HA hw ha hg
  go_enter Tryz.func12, Tryz.ntmps12
  go_wp2_with (first
    | (go_at_call 29; refine HC.out.mono ?_; rintro e w1 ⟨⟨t, rfl⟩, rfl⟩)
    | (go_at_call 31; refine HS.out.mono ?_; rintro e w2 ⟨rfl, hc2, hx2⟩)
    | (go_at_call 32; refine (HA'.out _ hx2).mono ?_; rintro e w3 ⟨rfl, hp3⟩))
  go_ret
  exact ⟨rfl, hp3⟩
set_option maxRecDepth 20000 in
set_option maxHeartbeats 2000000 in
theorem answer_two (s a b : ByteArray) (T : ByteArray) (hs : s.size ≤ 60) (hw : isW s = false) (hg : Tryz.Glob wr) (ha : wordsL s = [a, b])
    (HA : ∀ W, Ext wr W → Calls Tryz.prog 33 #[.pointer (some ⟨rb, 0, none⟩), .string a, .string b] W fun e w' => e = .returned (.string T) ∧ P w') :
    Calls Tryz.prog 12 #[.pointer (some ⟨rb, 0, none⟩), .string s] wr fun e w' => e = .returned (.string T) ∧ P w' := by
  have HC : Hid (Calls Tryz.prog 29 #[.string s, .string ⟨#[119, 114, 105, 116, 101, 32]⟩] wr fun e w' => (∃ t, e = .returned (.tuple #[.string t, .bool false])) ∧ wr = w') := cut_no s wr hw
  have HS : Hid (Calls Tryz.prog 31 #[.string s, .string ⟨#[32]⟩] wr fun e w' => e = .returned (.slice (some ⟨wr.heap.size, 0, none⟩) 2 2) ∧ w'.cell? ⟨wr.heap.size, 0, none⟩ = some (.string a) ∧ w'.cell? ⟨wr.heap.size, 1, none⟩ = some (.string b) ∧ Ext wr w') := (split_any s wr (by omega) hg).mono fun _ _ hh => by
    have hh := hh.ex
    rw [ha] at hh
    exact ⟨hh.1, hh.2.1.cell 0, hh.2.1.cell 1, hh.2.2⟩
  have HA' : Hid (∀ W, Ext wr W → Calls Tryz.prog 33 #[.pointer (some ⟨rb, 0, none⟩), .string a, .string b] W fun e w' => e = .returned (.string T) ∧ P w') := HA
  have h60 : ¬ (60 : Int) < (s.size : Int) := by omega
  clear HA hw ha hg
  go_enter Tryz.func12, Tryz.ntmps12
  go_wp2_with (first
    | (go_at_call 29; refine HC.out.mono ?_; rintro e w1 ⟨⟨t, rfl⟩, rfl⟩)
    | (go_at_call 31; refine HS.out.mono ?_; rintro e w2 ⟨rfl, hc2, hc3, hx2⟩))
  go_region_with (first | (go_at_call 33; refine (HA'.out _ (by repeat (first | assumption | refine Ext.drew ?_ | refine Ext.drewN ?_ _))).mono ?_; rintro e w3 ⟨rfl, hp3⟩))
  all_goals
    go_wp2
    go_ret
    exact ⟨rfl, hp3⟩
set_option maxRecDepth 20000 in
set_option maxHeartbeats 2000000 in
theorem answer_three (s a b c : ByteArray) (T : ByteArray) (hs : s.size ≤ 60) (hw : isW s = false) (hg : Tryz.Glob wr) (ha : wordsL s = [a, b, c])
    (HA : ∀ W, Ext wr W → Calls Tryz.prog 34 #[.pointer (some ⟨rb, 0, none⟩), .string a, .string b, .string c] W fun e w' => e = .returned (.string T) ∧ P w') :
    Calls Tryz.prog 12 #[.pointer (some ⟨rb, 0, none⟩), .string s] wr fun e w' => e = .returned (.string T) ∧ P w' := by
  have HC : Hid (Calls Tryz.prog 29 #[.string s, .string ⟨#[119, 114, 105, 116, 101, 32]⟩] wr fun e w' => (∃ t, e = .returned (.tuple #[.string t, .bool false])) ∧ wr = w') := cut_no s wr hw
  have HS : Hid (Calls Tryz.prog 31 #[.string s, .string ⟨#[32]⟩] wr fun e w' => e = .returned (.slice (some ⟨wr.heap.size, 0, none⟩) 3 3) ∧ w'.cell? ⟨wr.heap.size, 0, none⟩ = some (.string a) ∧ w'.cell? ⟨wr.heap.size, 1, none⟩ = some (.string b) ∧ w'.cell? ⟨wr.heap.size, 2, none⟩ = some (.string c) ∧ Ext wr w') := (split_any s wr (by omega) hg).mono fun _ _ hh => by
    have hh := hh.ex
    rw [ha] at hh
    exact ⟨hh.1, hh.2.1.cell 0, hh.2.1.cell 1, hh.2.1.cell 2, hh.2.2⟩
  have HA' : Hid (∀ W, Ext wr W → Calls Tryz.prog 34 #[.pointer (some ⟨rb, 0, none⟩), .string a, .string b, .string c] W fun e w' => e = .returned (.string T) ∧ P w') := HA
  have h60 : ¬ (60 : Int) < (s.size : Int) := by omega
  clear HA hw ha hg
  go_enter Tryz.func12, Tryz.ntmps12
  go_wp2_with (first
    | (go_at_call 29; refine HC.out.mono ?_; rintro e w1 ⟨⟨t, rfl⟩, rfl⟩)
    | (go_at_call 31; refine HS.out.mono ?_; rintro e w2 ⟨rfl, hc2, hc3, hc4, hx2⟩))
  go_region_with (first | (go_at_call 34; refine (HA'.out _ (by repeat (first | assumption | refine Ext.drew ?_ | refine Ext.drewN ?_ _))).mono ?_; rintro e w3 ⟨rfl, hp3⟩))
  all_goals
    go_wp2
    go_ret
    exact ⟨rfl, hp3⟩
set_option maxRecDepth 20000 in
set_option maxHeartbeats 2000000 in
theorem answer_more (s : ByteArray) (hs : s.size ≤ 60) (hw : isW s = false) (hg : Tryz.Glob wr) (h3 : 3 < (wordsL s).length) :
    Calls Tryz.prog 12 #[.pointer (some ⟨rb, 0, none⟩), .string s] wr fun e w' => e = .returned (.string (errT 4)) ∧ Ext wr w' := by
  have HC : Hid (Calls Tryz.prog 29 #[.string s, .string ⟨#[119, 114, 105, 116, 101, 32]⟩] wr fun e w' => (∃ t, e = .returned (.tuple #[.string t, .bool false])) ∧ wr = w') := cut_no s wr hw
  have HS : Hid (Calls Tryz.prog 31 #[.string s, .string ⟨#[32]⟩] wr fun e w' => e = .returned (.slice (some ⟨wr.heap.size, 0, none⟩) (wordsL s).length (wordsL s).length) ∧ Ext wr w') := (split_any s wr (by omega) hg).mono fun _ _ hh => ⟨hh.ex.1, hh.ex.2.2⟩
  have HT : Hid (∀ W v, Calls Tryz.prog 28 #[.iface 39 (.int .i64 4), v] W fun e w' => e = .returned (.string (errT 4)) ∧ W = w') := fun W v => told_4 W v
  have h60 : ¬ (60 : Int) < (s.size : Int) := by omega
  clear hw hg
  generalize (wordsL s).length = q at *
  have q1 : ((q : Int) == 1) = false := by rw [beq_eq_false_iff_ne]; omega
  have q2 : ((q : Int) == 2) = false := by rw [beq_eq_false_iff_ne]; omega
  have q3 : ((q : Int) == 3) = false := by rw [beq_eq_false_iff_ne]; omega
  generalize errT 4 = T at *
  go_enter Tryz.func12, Tryz.ntmps12
  go_wp2_with (first
    | (go_at_call 29; refine HC.out.mono ?_; rintro e w1 ⟨⟨t, rfl⟩, rfl⟩)
    | (go_at_call 31; refine HS.out.mono ?_; rintro e w2 ⟨rfl, hx2⟩)
    | (go_at_call 28; refine (HT.out _ _).mono ?_; rintro e w1 ⟨rfl, rfl⟩))
  go_ret
  exact ⟨rfl, hx2⟩
end
end Go.Proofs.YtkibgflbidkalaaGreatDoor

/- A session's lines of one word, of two, of three. -/
namespace Go.Proofs.YtkibgflbidkalaaGreatDoor
open Go.RowKit Go.WideShapes

section
variable {wr : World} {rb : Nat} {P : World → Prop}
set_option maxRecDepth 20000 in
set_option maxHeartbeats 2000000 in
theorem alone_rows (a T : ByteArray) (ha : (a.toList == [114, 111, 119, 115]) = true)
    (HA : Calls Tryz.prog 59 #[.pointer (some ⟨rb, 0, none⟩), .string ⟨#[]⟩, .int .i64 40] wr fun e w' => e = .returned (.string T) ∧ P w') :
    Calls Tryz.prog 32 #[.pointer (some ⟨rb, 0, none⟩), .string a] wr fun e w' => e = .returned (.string T) ∧ P w' := by
  have H : Hid (Calls Tryz.prog 59 #[.pointer (some ⟨rb, 0, none⟩), .string ⟨#[]⟩, .int .i64 40] wr fun e w' => e = .returned (.string T) ∧ P w') := HA
  clear HA
  go_enter Tryz.func32, Tryz.ntmps32
  go_wp2_with (go_at_call 59; refine H.out.mono ?_; rintro e w1 ⟨rfl, hp1⟩)
  go_ret
  exact ⟨rfl, hp1⟩
set_option maxRecDepth 20000 in
set_option maxHeartbeats 2000000 in
theorem alone_flush (a : ByteArray) (sb : Nat) (ha : (a.toList == [102, 108, 117, 115, 104]) = true) (hP : ∀ W W', P W → Ext W W' → P W') (hc : wr.cell? ⟨rb, 1, none⟩ = some (.pointer (some ⟨sb, 0, none⟩)))
    (HA : Calls Tryz.prog 60 #[.pointer (some ⟨sb, 0, none⟩)] wr fun e w' => e = .returned .nilIface ∧ P w') :
    Calls Tryz.prog 32 #[.pointer (some ⟨rb, 0, none⟩), .string a] wr fun e w' => e = .returned (.string okT) ∧ P w' := by
  have H : Hid (Calls Tryz.prog 60 #[.pointer (some ⟨sb, 0, none⟩)] wr fun e w' => e = .returned .nilIface ∧ P w') := HA
  have HT : Hid (∀ W b, Blk W b #[.string ⟨#[111, 107]⟩] 9 → Calls Tryz.prog 28 #[.nilIface, .slice (some ⟨b, 0, none⟩) 1 1] W fun e w' => e = .returned (.string okT) ∧ Ext W w') := fun W b hb => told_ok W b hb
  have HP : Hid (∀ W W', P W → Ext W W' → P W') := hP
  have ha0 : (a.toList == [114, 111, 119, 115]) = false := by rw [eq_of_beq ha]; rfl
  clear HA hP
  generalize okT = T at *
  go_enter Tryz.func32, Tryz.ntmps32
  go_wp2_with (first
    | (go_at_call 60; refine H.out.mono ?_; rintro e w1 ⟨rfl, hp1⟩)
    | (go_at_call 28; refine (HT.out _ _ (Blk.new _ _ _)).mono ?_; rintro e w2 ⟨rfl, hx2⟩))
  go_ret
  exact ⟨rfl, HP.out _ _ hp1 (((Ext.refl _).alloc _).trans hx2)⟩
set_option maxRecDepth 20000 in
set_option maxHeartbeats 2000000 in
theorem alone_compact (a : ByteArray) (sb : Nat) (ha : (a.toList == [99, 111, 109, 112, 97, 99, 116]) = true) (hP : ∀ W W', P W → Ext W W' → P W') (hc : wr.cell? ⟨rb, 1, none⟩ = some (.pointer (some ⟨sb, 0, none⟩)))
    (HA : Calls Tryz.prog 61 #[.pointer (some ⟨sb, 0, none⟩)] wr fun e w' => e = .returned .nilIface ∧ P w') :
    Calls Tryz.prog 32 #[.pointer (some ⟨rb, 0, none⟩), .string a] wr fun e w' => e = .returned (.string okT) ∧ P w' := by
  have H : Hid (Calls Tryz.prog 61 #[.pointer (some ⟨sb, 0, none⟩)] wr fun e w' => e = .returned .nilIface ∧ P w') := HA
  have HT : Hid (∀ W b, Blk W b #[.string ⟨#[111, 107]⟩] 9 → Calls Tryz.prog 28 #[.nilIface, .slice (some ⟨b, 0, none⟩) 1 1] W fun e w' => e = .returned (.string okT) ∧ Ext W w') := fun W b hb => told_ok W b hb
  have HP : Hid (∀ W W', P W → Ext W W' → P W') := hP
  have ha0 : (a.toList == [114, 111, 119, 115]) = false := by rw [eq_of_beq ha]; rfl
  have ha1 : (a.toList == [102, 108, 117, 115, 104]) = false := by rw [eq_of_beq ha]; rfl
  clear HA hP
  generalize okT = T at *
  go_enter Tryz.func32, Tryz.ntmps32
  go_wp2_with (first
    | (go_at_call 61; refine H.out.mono ?_; rintro e w1 ⟨rfl, hp1⟩)
    | (go_at_call 28; refine (HT.out _ _ (Blk.new _ _ _)).mono ?_; rintro e w2 ⟨rfl, hx2⟩))
  go_ret
  exact ⟨rfl, HP.out _ _ hp1 (((Ext.refl _).alloc _).trans hx2)⟩
set_option maxRecDepth 20000 in
set_option maxHeartbeats 2000000 in
theorem alone_blocks (a T : ByteArray) (ha : (a.toList == [98, 108, 111, 99, 107, 115]) = true)
    (HA : Calls Tryz.prog 62 #[.pointer (some ⟨rb, 0, none⟩)] wr fun e w' => e = .returned (.string T) ∧ P w') :
    Calls Tryz.prog 32 #[.pointer (some ⟨rb, 0, none⟩), .string a] wr fun e w' => e = .returned (.string T) ∧ P w' := by
  have H : Hid (Calls Tryz.prog 62 #[.pointer (some ⟨rb, 0, none⟩)] wr fun e w' => e = .returned (.string T) ∧ P w') := HA
  have ha0 : (a.toList == [114, 111, 119, 115]) = false := by rw [eq_of_beq ha]; rfl
  have ha1 : (a.toList == [102, 108, 117, 115, 104]) = false := by rw [eq_of_beq ha]; rfl
  have ha2 : (a.toList == [99, 111, 109, 112, 97, 99, 116]) = false := by rw [eq_of_beq ha]; rfl
  clear HA
  go_enter Tryz.func32, Tryz.ntmps32
  go_wp2_with (go_at_call 62; refine H.out.mono ?_; rintro e w1 ⟨rfl, hp1⟩)
  go_ret
  exact ⟨rfl, hp1⟩
set_option maxRecDepth 20000 in
set_option maxHeartbeats 2000000 in
theorem alone_open (a : ByteArray) (ha : (a.toList == [111, 112, 101, 110]) = true) (hP : ∀ W W', P W → Ext W W' → P W')
    (HA : Calls Tryz.prog 11 #[.pointer (some ⟨rb, 0, none⟩)] wr fun e w' => e = .returned .nilIface ∧ P w') :
    Calls Tryz.prog 32 #[.pointer (some ⟨rb, 0, none⟩), .string a] wr fun e w' => e = .returned (.string okT) ∧ P w' := by
  have H : Hid (Calls Tryz.prog 11 #[.pointer (some ⟨rb, 0, none⟩)] wr fun e w' => e = .returned .nilIface ∧ P w') := HA
  have HT : Hid (∀ W b, Blk W b #[.string ⟨#[111, 107]⟩] 9 → Calls Tryz.prog 28 #[.nilIface, .slice (some ⟨b, 0, none⟩) 1 1] W fun e w' => e = .returned (.string okT) ∧ Ext W w') := fun W b hb => told_ok W b hb
  have HP : Hid (∀ W W', P W → Ext W W' → P W') := hP
  have ha0 : (a.toList == [114, 111, 119, 115]) = false := by rw [eq_of_beq ha]; rfl
  have ha1 : (a.toList == [102, 108, 117, 115, 104]) = false := by rw [eq_of_beq ha]; rfl
  have ha2 : (a.toList == [99, 111, 109, 112, 97, 99, 116]) = false := by rw [eq_of_beq ha]; rfl
  have ha3 : (a.toList == [98, 108, 111, 99, 107, 115]) = false := by rw [eq_of_beq ha]; rfl
  clear HA hP
  generalize okT = T at *
  go_enter Tryz.func32, Tryz.ntmps32
  go_wp2_with (first
    | (go_at_call 11; refine H.out.mono ?_; rintro e w1 ⟨rfl, hp1⟩)
    | (go_at_call 28; refine (HT.out _ _ (Blk.new _ _ _)).mono ?_; rintro e w2 ⟨rfl, hx2⟩))
  go_ret
  exact ⟨rfl, HP.out _ _ hp1 (((Ext.refl _).alloc _).trans hx2)⟩
set_option maxRecDepth 20000 in
set_option maxHeartbeats 2000000 in
theorem alone_other (a : ByteArray) (ha0 : (a.toList == [114, 111, 119, 115]) = false) (ha1 : (a.toList == [102, 108, 117, 115, 104]) = false) (ha2 : (a.toList == [99, 111, 109, 112, 97, 99, 116]) = false) (ha3 : (a.toList == [98, 108, 111, 99, 107, 115]) = false) (ha4 : (a.toList == [111, 112, 101, 110]) = false) :
    Calls Tryz.prog 32 #[.pointer (some ⟨rb, 0, none⟩), .string a] wr fun e w' => e = .returned (.string (errT 4)) ∧ wr = w' := by
  have HT : Hid (∀ W v, Calls Tryz.prog 28 #[.iface 39 (.int .i64 4), v] W fun e w' => e = .returned (.string (errT 4)) ∧ W = w') := fun W v => told_4 W v
  generalize errT 4 = T at *
  go_enter Tryz.func32, Tryz.ntmps32
  go_wp2_with (go_at_call 28; refine (HT.out _ _).mono ?_; rintro e w1 ⟨rfl, rfl⟩)
  go_ret
  exact ⟨rfl, rfl⟩
set_option maxRecDepth 20000 in
set_option maxHeartbeats 2000000 in
theorem with_get (a b T : ByteArray) (ha : (a.toList == [103, 101, 116]) = true)
    (HA : Calls Tryz.prog 63 #[.pointer (some ⟨rb, 0, none⟩), .string b] wr fun e w' => e = .returned (.string T) ∧ P w') :
    Calls Tryz.prog 33 #[.pointer (some ⟨rb, 0, none⟩), .string a, .string b] wr fun e w' => e = .returned (.string T) ∧ P w' := by
  have H : Hid (Calls Tryz.prog 63 #[.pointer (some ⟨rb, 0, none⟩), .string b] wr fun e w' => e = .returned (.string T) ∧ P w') := HA
  clear HA
  go_enter Tryz.func33, Tryz.ntmps33
  go_wp2_with (go_at_call 63; refine H.out.mono ?_; rintro e w1 ⟨rfl, hp1⟩)
  go_ret
  exact ⟨rfl, hp1⟩
set_option maxRecDepth 20000 in
set_option maxHeartbeats 2000000 in
theorem with_none (a b : ByteArray) (ha : (a.toList == [103, 101, 116]) = false) (hb : b.size ≤ 1000) (hn : numO b = none) :
    Calls Tryz.prog 33 #[.pointer (some ⟨rb, 0, none⟩), .string a, .string b] wr fun e w' => e = .returned (.string (errT 4)) ∧ wr = w' := by
  have HN : Hid (Calls Tryz.prog 64 #[.string b] wr fun e w' => e = .returned (.tuple #[.int .i64 0, .bool false]) ∧ wr = w') := by
    have := cnumber_any b wr hb
    rw [hn] at this
    exact this
  have HT : Hid (∀ W v, Calls Tryz.prog 28 #[.iface 39 (.int .i64 4), v] W fun e w' => e = .returned (.string (errT 4)) ∧ W = w') := fun W v => told_4 W v
  clear hn
  generalize errT 4 = T at *
  go_enter Tryz.func33, Tryz.ntmps33
  go_wp2_with (first
    | (go_at_call 64; refine HN.out.mono ?_; rintro e w1 ⟨rfl, rfl⟩)
    | (go_at_call 28; refine (HT.out _ _).mono ?_; rintro e w1 ⟨rfl, rfl⟩))
  go_ret
  exact ⟨rfl, rfl⟩
set_option maxRecDepth 20000 in
set_option maxHeartbeats 2000000 in
theorem with_restart (a b : ByteArray) (n cb : Nat) (ha : (a.toList == [114, 101, 115, 116, 97, 114, 116]) = true) (hb : b.size ≤ 1000) (hn : numO b = some n) (hP : ∀ W W', P W → Ext W W' → P W') (hc : wr.cell? ⟨rb, 0, none⟩ = some (.pointer (some ⟨cb, 0, none⟩)))
    (HR : Calls Tryz.prog 67 #[.pointer (some ⟨cb, 0, none⟩), .int .i64 (n : Int)] wr fun e w' => e = .returned (.tuple #[]) ∧ P w')
    (HA : ∀ W, P W → Calls Tryz.prog 11 #[.pointer (some ⟨rb, 0, none⟩)] W fun e w' => e = .returned .nilIface ∧ P w') :
    Calls Tryz.prog 33 #[.pointer (some ⟨rb, 0, none⟩), .string a, .string b] wr fun e w' => e = .returned (.string okT) ∧ P w' := by
  have HN : Hid (Calls Tryz.prog 64 #[.string b] wr fun e w' => e = .returned (.tuple #[.int .i64 (n : Int), .bool true]) ∧ wr = w') := by
    have := cnumber_any b wr hb
    rw [hn] at this
    exact this
  have H : Hid (∀ W, P W → Calls Tryz.prog 11 #[.pointer (some ⟨rb, 0, none⟩)] W fun e w' => e = .returned .nilIface ∧ P w') := HA
  have HR' : Hid (Calls Tryz.prog 67 #[.pointer (some ⟨cb, 0, none⟩), .int .i64 (n : Int)] wr fun e w' => e = .returned (.tuple #[]) ∧ P w') := HR
  have HT : Hid (∀ W b, Blk W b #[.string ⟨#[111, 107]⟩] 9 → Calls Tryz.prog 28 #[.nilIface, .slice (some ⟨b, 0, none⟩) 1 1] W fun e w' => e = .returned (.string okT) ∧ Ext W w') := fun W b hb => told_ok W b hb
  have HP : Hid (∀ W W', P W → Ext W W' → P W') := hP
  have ha0 : (a.toList == [103, 101, 116]) = false := by rw [eq_of_beq ha]; rfl
  have ha1 : (a.toList == [119, 101, 97, 107, 101, 110]) = false := by rw [eq_of_beq ha]; rfl
  have ha2 : (a.toList == [97, 114, 109]) = false := by rw [eq_of_beq ha]; rfl
  clear HA HR hn hP
  generalize okT = T at *
  go_enter Tryz.func33, Tryz.ntmps33
  go_wp2_with (first
    | (go_at_call 64; refine HN.out.mono ?_; rintro e w1 ⟨rfl, rfl⟩)
    | (go_at_call 67; refine HR'.out.mono ?_; rintro e w2 ⟨rfl, hp2⟩)
    | (go_at_call 11; refine (H.out _ hp2).mono ?_; rintro e w3 ⟨rfl, hp3⟩)
    | (go_at_call 28; refine (HT.out _ _ (Blk.new _ _ _)).mono ?_; rintro e w4 ⟨rfl, hx4⟩))
  go_ret
  exact ⟨rfl, HP.out _ _ hp3 (((Ext.refl _).alloc _).trans hx4)⟩
set_option maxRecDepth 20000 in
set_option maxHeartbeats 2000000 in
theorem with_other (a b : ByteArray) (n : Nat) (hb : b.size ≤ 1000) (hn : numO b = some n) (ha0 : (a.toList == [103, 101, 116]) = false) (ha1 : (a.toList == [119, 101, 97, 107, 101, 110]) = false) (ha2 : (a.toList == [97, 114, 109]) = false) (ha3 : (a.toList == [114, 101, 115, 116, 97, 114, 116]) = false) :
    Calls Tryz.prog 33 #[.pointer (some ⟨rb, 0, none⟩), .string a, .string b] wr fun e w' => e = .returned (.string (errT 4)) ∧ wr = w' := by
  have HN : Hid (Calls Tryz.prog 64 #[.string b] wr fun e w' => e = .returned (.tuple #[.int .i64 (n : Int), .bool true]) ∧ wr = w') := by
    have := cnumber_any b wr hb
    rw [hn] at this
    exact this
  have HT : Hid (∀ W v, Calls Tryz.prog 28 #[.iface 39 (.int .i64 4), v] W fun e w' => e = .returned (.string (errT 4)) ∧ W = w') := fun W v => told_4 W v
  clear hn
  generalize errT 4 = T at *
  go_enter Tryz.func33, Tryz.ntmps33
  go_wp2_with (first
    | (go_at_call 64; refine HN.out.mono ?_; rintro e w1 ⟨rfl, rfl⟩)
    | (go_at_call 28; refine (HT.out _ _).mono ?_; rintro e w1 ⟨rfl, rfl⟩))
  go_ret
  exact ⟨rfl, rfl⟩
set_option maxRecDepth 20000 in
set_option maxHeartbeats 2000000 in
theorem two_page (a b c T : ByteArray) (n : Nat) (ha : (a.toList == [112, 97, 103, 101]) = true) (hc : c.size ≤ 1000) (hn : numO c = some n)
    (HA : Calls Tryz.prog 59 #[.pointer (some ⟨rb, 0, none⟩), .string b, .int .i64 (n : Int)] wr fun e w' => e = .returned (.string T) ∧ P w') :
    Calls Tryz.prog 34 #[.pointer (some ⟨rb, 0, none⟩), .string a, .string b, .string c] wr fun e w' => e = .returned (.string T) ∧ P w' := by
  have HN : Hid (Calls Tryz.prog 64 #[.string c] wr fun e w' => e = .returned (.tuple #[.int .i64 (n : Int), .bool true]) ∧ wr = w') := by
    have := cnumber_any c wr hc
    rw [hn] at this
    exact this
  have H : Hid (Calls Tryz.prog 59 #[.pointer (some ⟨rb, 0, none⟩), .string b, .int .i64 (n : Int)] wr fun e w' => e = .returned (.string T) ∧ P w') := HA
  have ha' : (a.toList != [112, 97, 103, 101]) = false := by rw [bne, ha]; rfl
  clear HA hn
  go_enter Tryz.func34, Tryz.ntmps34
  go_wp2_with (first
    | (go_at_call 64; refine HN.out.mono ?_; rintro e w1 ⟨rfl, rfl⟩)
    | (go_at_call 59; refine H.out.mono ?_; rintro e w1 ⟨rfl, hp1⟩))
  go_ret
  exact ⟨rfl, hp1⟩
set_option maxRecDepth 20000 in
set_option maxHeartbeats 2000000 in
theorem two_other (a b c : ByteArray) (hc : c.size ≤ 1000) (h : (a.toList == [112, 97, 103, 101]) = false ∨ numO c = none) :
    Calls Tryz.prog 34 #[.pointer (some ⟨rb, 0, none⟩), .string a, .string b, .string c] wr fun e w' => e = .returned (.string (errT 4)) ∧ wr = w' := by
  have HN : Hid (Calls Tryz.prog 64 #[.string c] wr fun e w' => e = .returned (.tuple #[.int .i64 (((numO c).getD 0 : Nat) : Int), .bool (numO c).isSome]) ∧ wr = w') := cnumber_any c wr hc
  have HT : Hid (∀ W v, Calls Tryz.prog 28 #[.iface 39 (.int .i64 4), v] W fun e w' => e = .returned (.string (errT 4)) ∧ W = w') := fun W v => told_4 W v
  generalize errT 4 = T at *
  by_cases ha : (a.toList == [112, 97, 103, 101]) = true
  · have hn : numO c = none := by
      rcases h with h | h
      · rw [ha] at h; cases h
      · exact h
    have ha' : (a.toList != [112, 97, 103, 101]) = false := by rw [bne, ha]; rfl
    rw [hn] at HN
    have HN' : Hid (Calls Tryz.prog 64 #[.string c] wr fun e w' => e = .returned (.tuple #[.int .i64 0, .bool false]) ∧ wr = w') := HN
    clear HN hn h
    go_enter Tryz.func34, Tryz.ntmps34
    go_wp2_with (first
      | (go_at_call 64; refine HN'.out.mono ?_; rintro e w1 ⟨rfl, rfl⟩)
      | (go_at_call 28; refine (HT.out _ _).mono ?_; rintro e w1 ⟨rfl, rfl⟩))
    go_ret
    exact ⟨rfl, rfl⟩
  · have ha' : (a.toList == [112, 97, 103, 101]) = false := by simpa using ha
    have ha2 : ¬ a.toList = [112, 97, 103, 101] := by simpa using ha
    clear h ha
    generalize (numO c).isSome = q at *
    generalize (((numO c).getD 0 : Nat) : Int) = z at *
    go_enter Tryz.func34, Tryz.ntmps34
    go_wp2_with (first
      | (go_at_call 64; refine HN.out.mono ?_; rintro e w1 ⟨rfl, rfl⟩)
      | (go_at_call 28; refine (HT.out _ _).mono ?_; rintro e w1 ⟨rfl, rfl⟩))
    go_ret
    exact ⟨rfl, rfl⟩
end
end Go.Proofs.YtkibgflbidkalaaGreatDoor

/- A session's lines, answered: all of it. -/
namespace Go.Proofs.YtkibgflbidkalaaGreatDoor
open Go.RowKit Go.WideShapes

structure LineOk (s : ByteArray) : Prop where
  size : s.size ≤ 100
  blocks : ¬ s.data.toList = [98, 108, 111, 99, 107, 115]
  arm : ¬ [97, 114, 109, 32] <+: s.data.toList
  weaken : ¬ [119, 101, 97, 107, 101, 110, 32] <+: s.data.toList
theorem LineOk.alone {s a : ByteArray} (h : LineOk s) (ha : wordsL s = [a]) : (a.toList == [98, 108, 111, 99, 107, 115]) = false := by
  rw [beq_eq_false_iff_ne]
  intro e
  rw [ByteArray.toList_eq, words_one ha] at e
  exact h.blocks e
theorem LineOk.two {s a b : ByteArray} (h : LineOk s) (ha : wordsL s = [a, b]) : (a.toList == [119, 101, 97, 107, 101, 110]) = false ∧ (a.toList == [97, 114, 109]) = false := by
  obtain ⟨q, hq⟩ := words_two ha
  constructor
  · rw [beq_eq_false_iff_ne]
    intro e
    rw [ByteArray.toList_eq] at e
    refine h.weaken ⟨q, ?_⟩
    rw [hq, e]; rfl
  · rw [beq_eq_false_iff_ne]
    intro e
    rw [ByteArray.toList_eq] at e
    refine h.arm ⟨q, ?_⟩
    rw [hq, e]; rfl
theorem wrtF_bd (R : List Ent) (t : ByteArray) : 0 ≤ wrtF R t ∧ wrtF R t < 10 := by
  unfold wrtF
  split
  · omega
  · rename_i l _
    unfold writeF
    split
    · omega
    · split
      · rename_i h
        unfold bytesT at h ⊢
        split
        · have : ∀ l : List Ent, 0 ≤ faultsE l ∧ faultsE l ≤ 3 := fun l => by
            induction l with
            | nil => exact ⟨Int.le_refl _, by decide⟩
            | cons e r ih =>
              unfold faultsE
              split
              · exact ih
              · unfold faultE; rcases faultB_cases e.key e.val e.gone with h | h | h <;> omega
          have := this l
          dsimp only; omega
        · split
          · dsimp only; omega
          · dsimp only; omega
      · split <;> omega
theorem Ses.ansW {w wr : World} {rb n : Nat} {g : Option (Nat × Obj)} {R : List Ent} (h : Ses w wr rb n g R) (hn : n ≤ 80000) (hg : Tryz.Glob w) {s : ByteArray} (hs : s.size ≤ 60) (hw : isW s = true) :
    Calls Tryz.prog 12 #[.pointer (some ⟨rb, 0, none⟩), .string s] wr fun e w' => e = .returned (.string (wrtT (wrtF R (s.extract 6 s.size)))) ∧ Ses w w' rb (n + 9) g (wrtR R (s.extract 6 s.size)) :=
  answer_write s _ hs hw (fun _ _ hp hx => hp.ext hx) (wrtF_bd _ _).1 (wrtF_bd _ _).2 (sess_write h hn _ (by simp; omega) hg)
theorem Ses.alone {w wr : World} {rb n : Nat} {g : Option (Nat × Obj)} {R : List Ent} (h : Ses w wr rb n g R) (hn : n ≤ 80000) (a : ByteArray) (hb : (a.toList == [98, 108, 111, 99, 107, 115]) = false) :
    Calls Tryz.prog 32 #[.pointer (some ⟨rb, 0, none⟩), .string a] wr fun e w' => e = .returned (.string (oneA R a)) ∧ Ses w w' rb (n + 9) g R := by
  unfold oneA
  cases h1 : (a.toList == [114, 111, 119, 115]) with
  | true =>
    rw [if_pos rfl]
    exact alone_rows a _ h1 ((sess_page h ⟨#[]⟩ 40).mono fun _ _ hh => ⟨hh.1, (h.ext hh.2).le (by omega)⟩)
  | false =>
    rw [if_neg (by simp)]
    cases h2 : (a.toList == [102, 108, 117, 115, 104]) with
    | true =>
      rw [if_pos rfl]
      obtain ⟨sb, hc, hF⟩ := h.flush hn
      exact alone_flush a sb h2 (fun _ _ hp hx => hp.ext hx) hc hF
    | false =>
      rw [if_neg (by simp)]
      cases h3 : (a.toList == [99, 111, 109, 112, 97, 99, 116]) with
      | true =>
        rw [if_pos rfl]
        obtain ⟨sb, hc, hF⟩ := h.compact hn
        exact alone_compact a sb h3 (fun _ _ hp hx => hp.ext hx) hc hF
      | false =>
        rw [if_neg (by simp)]
        cases h4 : (a.toList == [111, 112, 101, 110]) with
        | true =>
          rw [if_pos rfl]
          exact alone_open a h4 (fun _ _ hp hx => hp.ext hx) (h.open.mono fun _ _ hh => ⟨hh.1, hh.2.le (by omega)⟩)
        | false =>
          rw [if_neg (by simp)]
          exact (alone_other a h1 h2 h3 hb h4).mono fun _ _ hh => ⟨hh.1, by rw [← hh.2]; exact h.le (by omega)⟩
theorem Ses.withOne {w wr : World} {rb n : Nat} {g : Option (Nat × Obj)} {R : List Ent} (h : Ses w wr rb n g R) (hn : n ≤ 80000) (a b : ByteArray) (hb : b.size ≤ 1000) (h1 : (a.toList == [119, 101, 97, 107, 101, 110]) = false) (h2 : (a.toList == [97, 114, 109]) = false) :
    Calls Tryz.prog 33 #[.pointer (some ⟨rb, 0, none⟩), .string a, .string b] wr fun e w' => e = .returned (.string (twoA R a b)) ∧ Ses w w' rb (n + 9) g R := by
  unfold twoA
  cases h0 : (a.toList == [103, 101, 116]) with
  | true =>
    rw [if_pos rfl]
    exact with_get a b _ h0 ((sess_get h b hb).mono fun _ _ hh => ⟨hh.1, (h.ext hh.2).le (by omega)⟩)
  | false =>
    rw [if_neg (by simp)]
    cases hk : numO b with
    | none => exact (with_none a b h0 hb hk).mono fun _ _ hh => ⟨hh.1, by rw [← hh.2]; exact h.le (by omega)⟩
    | some k =>
      dsimp only
      cases h3 : (a.toList == [114, 101, 115, 116, 97, 114, 116]) with
      | true =>
        rw [if_pos rfl]
        obtain ⟨cb, hc, hR⟩ := h.restart (by omega) (k : Int)
        exact (with_restart a b k cb h3 hb hk (fun _ _ hp hx => hp.ext hx) hc hR (fun W hp => hp.open)).mono fun _ _ hh => ⟨hh.1, hh.2.le (by omega)⟩
      | false =>
        rw [if_neg (by simp)]
        exact (with_other a b k hb hk h0 h1 h2 h3).mono fun _ _ hh => ⟨hh.1, by rw [← hh.2]; exact h.le (by omega)⟩
theorem Ses.withTwo {w wr : World} {rb n : Nat} {g : Option (Nat × Obj)} {R : List Ent} (h : Ses w wr rb n g R) (a b c : ByteArray) (hc : c.size ≤ 1000) :
    Calls Tryz.prog 34 #[.pointer (some ⟨rb, 0, none⟩), .string a, .string b, .string c] wr fun e w' => e = .returned (.string (threeA R a b c)) ∧ Ses w w' rb (n + 9) g R := by
  unfold threeA
  cases hk : numO c with
  | none => exact (two_other a b c hc (.inr hk)).mono fun _ _ hh => ⟨hh.1, by rw [← hh.2]; exact h.le (by omega)⟩
  | some k =>
    dsimp only
    cases h3 : (a.toList == [112, 97, 103, 101]) with
    | true =>
      rw [if_pos rfl]
      exact two_page a b c _ k h3 hc hk ((sess_page h b (k : Int)).mono fun _ _ hh => ⟨hh.1, (h.ext hh.2).le (by omega)⟩)
    | false =>
      rw [if_neg (by simp)]
      exact (two_other a b c hc (.inl h3)).mono fun _ _ hh => ⟨hh.1, by rw [← hh.2]; exact h.le (by omega)⟩
theorem word_size {s x : ByteArray} {l : List ByteArray} (h : wordsL s = l) (hx : x ∈ l) : x.size ≤ s.size := wordsL_size s x (by rw [h]; exact hx)
theorem Ses.answer {w wr : World} {rb n : Nat} {g : Option (Nat × Obj)} {R : List Ent} (h : Ses w wr rb n g R) (hn : n ≤ 80000) (hg : Tryz.Glob w) {s : ByteArray} (hs : LineOk s) :
    Calls Tryz.prog 12 #[.pointer (some ⟨rb, 0, none⟩), .string s] wr fun e w' => e = .returned (.string (ansE R s)) ∧ Ses w w' rb (n + 9) g (ansR R s) := by
  have hsz := hs.size
  have hgr := glob_ext hg h.x
  unfold ansE ansR
  by_cases h60 : 60 < s.size
  · rw [if_pos h60, if_pos h60]
    exact (answer_long s h60 (by omega)).mono fun _ _ hh => ⟨hh.1, (h.ext hh.2).le (by omega)⟩
  rw [if_neg h60, if_neg h60]
  cases hw : isW s with
  | true =>
    rw [if_pos rfl, if_pos rfl]
    exact h.ansW hn hg (by omega) hw
  | false =>
    rw [if_neg (by simp), if_neg (by simp)]
    match hl : wordsL s with
    | [] => obtain ⟨a, r, h'⟩ := words_some s; rw [h'] at hl; cases hl
    | [a] =>
      exact answer_one s a _ (by omega) hw hgr hl (fun W hx => (h.ext hx).alone hn a (hs.alone hl))
    | [a, b] =>
      exact answer_two s a b _ (by omega) hw hgr hl (fun W hx => (h.ext hx).withOne hn a b (by have := word_size hl (x := b) (by simp); omega) (hs.two hl).1 (hs.two hl).2)
    | [a, b, c] =>
      exact answer_three s a b c _ (by omega) hw hgr hl (fun W hx => (h.ext hx).withTwo a b c (by have := word_size hl (x := c) (by simp); omega))
    | a :: b :: c :: d :: r =>
      exact (answer_more s (by omega) hw hgr (by rw [hl]; simp)).mono fun _ _ hh => ⟨hh.1, (h.ext hh.2).le (by omega)⟩
end Go.Proofs.YtkibgflbidkalaaGreatDoor
