/- ConO. -/
import Derived.Test.YtkibgflbidkalaaGreatDoorConNJ
import Derived.Test.YtkibgflbidkalaaGreatDoorAppJ

/- ConsoleSays: what both sessions answer, line by line. -/
namespace Go.Proofs.YtkibgflbidkalaaGreatDoor
open Go.RowKit Go.WideShapes

def rowsN (ls : List ByteArray) (i : Nat) : List Ent := (ls.take i).foldl ansR []
def ansN (ls : List ByteArray) (i : Nat) : ByteArray := ansE (rowsN ls i) (ls.getD i ⟨#[]⟩)
theorem rowsN_step {ls : List ByteArray} {i : Nat} {s : ByteArray} (h : ls[i]? = some s) : rowsN ls (i + 1) = ansR (rowsN ls i) s := by
  unfold rowsN
  rw [List.take_add_one, h, List.foldl_append]; rfl
theorem ansN_is {ls : List ByteArray} {i : Nat} {s : ByteArray} (h : ls[i]? = some s) : ansN ls i = ansE (rowsN ls i) s := by
  unfold ansN
  rw [List.getD_eq_getElem?_getD, h]; rfl
theorem rowsN_pln (ls : List ByteArray) : ∀ i, i ≤ ls.length → Pln (rowsN ls i)
  | 0, _ => Pln.nil
  | i + 1, h => by
    rw [rowsN_step (List.getElem?_eq_getElem (show i < ls.length by omega))]
    exact (rowsN_pln ls i (by omega)).ans _
def CN (ls : List ByteArray) (i : Nat) (z : SS) : Prop := rowsE z.hand z.N z.O = rowsN ls i ∧ z.M.left = -1 ∧ wkN z.M.wk ≤ 0 ∧ z.N.length ≤ 2 ∧ z.n ≤ 4 + 9 * i
theorem CN_zero (ls : List ByteArray) : CN ls 0 ⟨4, fM, fm, 0, [], [], []⟩ := by
  refine ⟨rfl, f3_ok.2.2, ?_, by simp, by simp⟩
  show wkN fM3.wk ≤ 0
  rw [f3_wk]; decide
theorem SesX.le {w wr : World} {rb n n' : Nat} {g : Option (Nat × Obj)} {M : CM} {m : Man} {a : Nat} {hand : List Ent} {N O : List Tb} (h : SesX w wr rb n g M m a hand N O) (hn : n ≤ n') : SesX w wr rb n' g M m a hand N O := by
  obtain ⟨⟨S, cb, sb, x, h1, h2, hi, h3⟩, h4, h5, h6⟩ := h
  exact ⟨⟨S, cb, sb, x, h1, h2, hi.keep (fun _ _ => rfl) (fun _ _ => rfl) hi.nst.up rfl hi.bw (fun b => Nat.le_trans (hi.wr b) hn) hn, h3⟩, h4, h5, h6⟩
theorem run_lines (ao : Option Addr) (cap : Nat) (ls : List ByteArray) (w : World) (hl : ls.length ≤ 80) (hS : StrsAt w ao ls) (hg : GlobT w) (hm : Tryz.Glob w) (hok : ∀ s ∈ ls, LineOk s) :
    Calls Tryz.prog 5 #[.slice ao ls.length cap] w fun e w' => ∃ oo oc, e = .returned (.tuple #[.slice oo ls.length oc, .nilIface]) ∧ StrsAt w' oo ((List.range ls.length).map (ansN ls)) ∧ Ext w w' := by
  refine run_by ao cap ls w hl hS hg (CN ls) (ansN ls) (CN_zero ls) fun i s g rb W hi hq => ?_
  obtain ⟨z, h1, h2, h3, h4, h5, h6⟩ := hq.ex
  have hil := (List.getElem?_eq_some_iff.1 hi).1
  have hses : Ses w W rb (4 + 9 * i) g (rowsN ls i) := ⟨z.M, z.m, z.a, z.hand, z.N, z.O, h1.le h6, h2, h3, h4, h5⟩
  rw [ansN_is hi]
  refine (hses.answer (by omega) hm (hok s (List.mem_of_getElem? hi))).mono fun _ w' hh => ⟨hh.1, ?_⟩
  obtain ⟨M, m, a, hand, N, O, q1, q2, q3, q4, q5⟩ := hh.2.ex
  exact ⟨⟨4 + 9 * i + 9, M, m, a, hand, N, O⟩, q1, by rw [rowsN_step hi]; exact q2, q3, q4, q5, by show 4 + 9 * i + 9 ≤ 4 + 9 * (i + 1); omega⟩
set_option maxRecDepth 20000 in
set_option maxHeartbeats 1000000 in
theorem run_many (ao : Option Addr) (cap n : Nat) (w : World) (hl : 80 < n) :
    Calls Tryz.prog 5 #[.slice ao n cap] w fun e w' => e = .returned (.tuple #[.slice none 0 0, .iface 39 (.int .i64 2)]) ∧ Ext w w' := by
  have h80 : (80 : Int) < (n : Int) := by omega
  go_enter Tryz.func5, Tryz.ntmps5
  go_wp2_with fail
  go_ret2
  exact ⟨rfl, Ext.refl _⟩
theorem StrsAt.row {w : World} {ao : Option Addr} {xs : List ByteArray} (h : StrsAt w ao xs) : xs.map Value.string ≠ [] → ∃ ad, ao = some ad ∧ ∀ j u, (xs.map Value.string)[j]? = some u → w.cell? (ad.add j) = some u := by
  intro hne
  obtain ⟨b, off, rfl, hc⟩ := h (by intro e; subst e; exact hne rfl)
  refine ⟨_, rfl, fun j u hu => ?_⟩
  have : ((⟨b, off, none⟩ : Addr).add j) = ⟨b, off + j, none⟩ := by unfold Addr.add; by_cases h : j = 0 <;> simp [h]
  rw [this]
  rw [List.getElem?_map] at hu
  cases hx : xs[j]? with
  | none => rw [hx] at hu; cases hu
  | some x =>
    rw [hx] at hu
    have : u = .string x := by simpa using hu.symm
    subst this
    exact hc j x hx
theorem wpList_app_strs {w : World} {ops : Array Oper} {rest : List Oper} {o : Oper} {a : Act} {Q : Exit → Act → World → Prop} (hgd : o.guard = none) (s x : Operand)
    (ho : o.op = .call { callee := .builtin .append, args := #[s, x], argTypes := #[22, 22] })
    (W0 : World) (v : Value) (es : List ByteArray) (hs : a.eval s = v) (hl : Sls W0 w v es) (ao : Option Addr) (c : Nat) (fs : List ByteArray) (hx : a.eval x = .slice ao fs.length c)
    (hfs : StrsAt w ao fs) (hn : es.length + fs.length ≤ 100000)
    (h : ∀ v' w', Sls W0 w' v' (es ++ fs) → wpList Tryz.prog ops Q rest (a.put o.dst v') w') : wpList Tryz.prog ops Q (o :: rest) a w := by
  obtain ⟨i0, hi, hz0, hz1, hz2⟩ := info_parts Tryz.infoStr
  refine wpList_append_any hgd s x 22 ho W0.heap.size 9 i0 (.string ⟨#[]⟩) 1 16 Tryz.underlying22 hi hz0 hz1 hz2 rfl (by decide) v es.length (es.map Value.string) hs hl.own ao fs.length c (fs.map Value.string) hx (by simp) hfs.row (fun u hu => by obtain ⟨y, _, rfl⟩ := List.mem_map.1 hu; rfl) ?_ ?_ hl.ext.size ?_
  · unfold maxLen; omega
  · omega
  · intro v' w' p q
    refine h v' w' ⟨?_, hl.ext.grown q (own_ge hl.own)⟩
    rw [List.map_append, List.length_append]; exact p
theorem Doc.regrow {w W W' : World} {xb rb : Nat} {g g' : Option (Nat × Obj)} {R : List Ent} {v v' : Value} {xs xs' : List ByteArray} (h : Doc w W xb rb g R) (hh : HoldS w W v xs g) (hh' : HoldS w W' v' xs' g') (hb : ∀ b, v.ownBlock = some b → w.heap.size ≤ b) (hgr : W.grownBy W' v.ownBlock) (hor : v'.ownBlock = v.ownBlock ∨ v'.ownBlock = some W.heap.size) : Doc w W' xb rb g' R := by
  have hxl := h.blk.lt
  obtain ⟨ro, rc, hB, _⟩ := h.st.ex
  have hrl := hB.lt
  have hnew : ∀ b ∈ xb :: gL g', b ∈ xb :: gL g ∨ W.heap.size ≤ b := fun b hm => by
    rcases List.mem_cons.1 hm with rfl | hm
    · exact .inl (by simp)
    · obtain ⟨⟨b', o⟩, hm', rfl⟩ := List.mem_map.1 hm
      have hg' : g' = some (b', o) := by cases g' <;> simp_all
      obtain ⟨_, q2⟩ := hh'.at_ b' o hg'
      rcases hor with h' | h'
      · rw [h'] at q2
        obtain ⟨o', hgo⟩ := hh.own b' q2
        exact .inl (by rw [hgo]; simp [gL])
      · rw [h'] at q2; cases q2; exact .inr (Nat.le_refl _)
  have hasd : Asd W' [rb] xb g' := fun b o e => by
    obtain ⟨q1, q2⟩ := hh'.at_ b o e
    rcases hor with h' | h'
    · rw [h'] at q2
      obtain ⟨o', hgo⟩ := hh.own b q2
      exact ⟨q1, (h.asd b o' hgo).2⟩
    · rw [h'] at q2
      cases q2
      refine ⟨q1, fun hm => ?_, fun e => ?_⟩
      · simp at hm; omega
      · omega
  cases ho : v.ownBlock with
  | none =>
    rw [ho] at hgr
    have hx : Ext W W' := Ext.grown (Ext.refl W) hgr (fun b hb => by cases hb)
    exact ⟨h.st.kp (Kp.ofExt hx _) hnew, h.blk.ext hx, h.x.trans hx, h.ge, hasd⟩
  | some k =>
    rw [ho] at hgr
    obtain ⟨o0, hg⟩ := hh.own k ho
    obtain ⟨_, hkr, hkx⟩ := h.asd k o0 hg
    have hK : Kp W W' [k] := Kp.grown hgr
    refine ⟨h.st.kp (hK.mono fun b hb => ?_) hnew, hK.Blk h.blk (fun hm => ?_), Kp.ext h.x hK (fun b hm => ?_), h.ge, hasd⟩
    · simp at hb; subst hb; rw [hg]; simp [gL]
    · simp at hm; exact hkx hm.symm
    · simp at hm; subst hm; exact hb _ ho
structure DocO (w W : World) (xb rb : Nat) (v : Value) (xs : List ByteArray) (R : List Ent) : Prop where
  ex : ∃ g, Doc w W xb rb g R ∧ HoldS w W v xs g
  sl : Sls w W v xs
theorem DocO.of {w W W' : World} {xb rb : Nat} {v : Value} {xs : List ByteArray} {R' : List Ent} {g : Option (Nat × Obj)} (h2 : HoldS w W v xs g) (h : Doc w W' xb rb g R') : DocO w W' xb rb v xs R' := by
  have hk : ∀ b o, g = some (b, o) → W'.heap[b]? = some o := fun b o e => (h.asd b o e).1
  exact ⟨⟨g, h, ⟨fun b o e => ⟨hk b o e, (h2.at_ b o e).2⟩, h2.own, h2.back⟩⟩, h2.back W' hk h.x⟩
theorem DocO.say {w W : World} {xb rb : Nat} {v : Value} {xs : List ByteArray} {R : List Ent} (h : DocO w W xb rb v xs R) (hp : Pln R) (s : ByteArray) (hs : s.size ≤ 1000) :
    Calls Tryz.prog 7 #[.pointer (some ⟨xb, 0, none⟩), .string s] W fun e w' => e = .returned (.string (ansE R s)) ∧ DocO w w' xb rb v xs (ansR R s) := by
  obtain ⟨g, h1, h2⟩ := h.ex
  exact (h1.say hp s hs).mono fun _ _ hh => ⟨hh.1, DocO.of h2 hh.2⟩
theorem DocO.ext {w W W' : World} {xb rb : Nat} {v : Value} {xs : List ByteArray} {R : List Ent} (h : DocO w W xb rb v xs R) (hx : Ext W W') : DocO w W' xb rb v xs R := by
  obtain ⟨g, h1, h2⟩ := h.ex
  exact DocO.of h2 (h1.ext hx)
theorem DocO.app {w W W' : World} {xb rb : Nat} {v v' : Value} {xs xs' : List ByteArray} {R : List Ent} (h : DocO w W xb rb v xs R) (hs : Sls w W' v' xs') (hgr : W.grownBy W' v.ownBlock) (hor : v'.ownBlock = v.ownBlock ∨ v'.ownBlock = some W.heap.size) : DocO w W' xb rb v' xs' R := by
  obtain ⟨g, h1, h2⟩ := h.ex
  obtain ⟨g', h3⟩ := hs.hold
  exact ⟨⟨g', h1.regrow h2 h3 (fun b hb => own_ge h.sl.own b hb) hgr hor, h3⟩, hs⟩
theorem DocO.start {w W : World} {xb rb : Nat} (h : Doc w W xb rb none []) : DocO w W xb rb (.slice none 0 0) [] [] :=
  ⟨⟨none, h, ⟨fun b o e => (by cases e), fun b e => (by cases e), fun w' _ hx => Sls.nil hx⟩⟩, Sls.nil h.x⟩
end Go.Proofs.YtkibgflbidkalaaGreatDoor
