/- SayA. -/
import Derived.Test.YthndopokabceiaaGreatDoorTopKJ
import Derived.Test.YthndopokabceiaaGreatDoorRstAJ

/- A store, and the document's beside it. -/
namespace Go.Proofs.YthndopokabceiaaGreatDoor
open Go.RowKit Go.WideShapes

/-- A store with rows R, the document's with rows Q, and a block aside. -/
structure SayAt (w wr : World) (ab : Nat) (cs : Array Value) (t : TypeId) (sb cb rb n k : Nat) (R Q : List Ent) : Prop where
  ex : ∃ S m, Up n wr S sb cb m k R ∧ RefSt wr S rb Q ∧ (Blk wr ab cs t ∧ ab ∉ S ∧ ¬ ab = rb) ∧ Ext w wr ∧ (∀ b ∈ S, w.heap.size ≤ b) ∧ w.heap.size ≤ rb
  ok : Ris Q ∧ Q.length ≤ 500
theorem SayAt.ext {w wr w' : World} {ab : Nat} {cs : Array Value} {t : TypeId} {sb cb rb n k : Nat} {R Q : List Ent} (h : SayAt w wr ab cs t sb cb rb n k R Q) (hx : Ext wr w') : SayAt w w' ab cs t sb cb rb n k R Q := by
  obtain ⟨S, m, h1, h2, h3, h4, h5⟩ := h.ex
  exact ⟨⟨S, m, h1.ext hx, h2.ext hx, ⟨h3.1.ext hx, h3.2⟩, h4.trans hx, h5⟩, h.ok⟩
theorem SayAt.x {w wr : World} {ab : Nat} {cs : Array Value} {t : TypeId} {sb cb rb n k : Nat} {R Q : List Ent} (h : SayAt w wr ab cs t sb cb rb n k R Q) : Ext w wr := by
  obtain ⟨S, m, h1, h2, h3, h4, h5⟩ := h.ex
  exact h4
theorem SayAt.blk {w wr : World} {ab : Nat} {cs : Array Value} {t : TypeId} {sb cb rb n k : Nat} {R Q : List Ent} (h : SayAt w wr ab cs t sb cb rb n k R Q) : Blk wr ab cs t := by
  obtain ⟨S, m, h1, h2, h3, h4, h5⟩ := h.ex
  exact h3.1
theorem SayAt.ref {w wr : World} {ab : Nat} {cs : Array Value} {t : TypeId} {sb cb rb n k : Nat} {R Q : List Ent} (h : SayAt w wr ab cs t sb cb rb n k R Q) : ∃ ro rc, Blk wr rb #[.slice ro Q.length rc] 39 ∧ EntsAt wr ro Q := by
  obtain ⟨S, m, h1, h2, h3, h4, h5⟩ := h.ex
  obtain ⟨ro, rc, q1, q2⟩ := h2.ex
  exact ⟨ro, rc, q1, q2.at_⟩
theorem SayAt.up {w wr : World} {ab : Nat} {cs : Array Value} {t : TypeId} {sb cb rb n k : Nat} {R Q : List Ent} (h : SayAt w wr ab cs t sb cb rb n k R Q) : ∃ S m, Up n wr S sb cb m k R := by
  obtain ⟨S, m, h1, h2, h3, h4, h5⟩ := h.ex
  exact ⟨S, m, h1⟩
theorem SayAt.le {w wr : World} {ab : Nat} {cs : Array Value} {t : TypeId} {sb cb rb n k n' k' : Nat} {R Q : List Ent} (h : SayAt w wr ab cs t sb cb rb n k R Q) (hn : n ≤ n') (hk : k ≤ k') : SayAt w wr ab cs t sb cb rb n' k' R Q := by
  obtain ⟨S, m, h1, h2⟩ := h.ex
  exact ⟨⟨S, m, h1.le hn hk, h2⟩, h.ok⟩
/-- Another block comes to be held aside. -/
theorem SayAt.aside {w wr : World} {ab : Nat} {cs : Array Value} {t : TypeId} {sb cb rb n k : Nat} {R Q : List Ent} (h : SayAt w wr ab cs t sb cb rb n k R Q) (cs' : Array Value) (t' : TypeId) : SayAt w (wr.alloc (.cells cs' t')) wr.heap.size cs' t' sb cb rb n k R Q := by
  have hx : Ext wr (wr.alloc (.cells cs' t')) := (Ext.refl _).alloc _
  obtain ⟨S, m, h1, h2, h3, h4, h5, h6⟩ := h.ex
  obtain ⟨ro, rc, q1, q2⟩ := h2.ex
  refine ⟨⟨S, m, h1.ext hx, h2.ext hx, ⟨Blk.new _ _ _, fun hm => ?_, fun e => ?_⟩, h4.trans hx, h5, h6⟩, h.ok⟩
  · have := h1.lt _ hm; omega
  · have := q1.lt; omega
theorem UpE.say {w wr w' : World} {S : List Nat} {ab : Nat} {cs : Array Value} {t : TypeId} {sb cb rb n k : Nat} {R Q : List Ent} (h : UpE n wr w' S sb cb k R) (hr : RefSt wr S rb Q) (hb : Blk wr ab cs t ∧ ab ∉ S ∧ ¬ ab = rb) (hx : Ext w wr) (hS : ∀ b ∈ S, w.heap.size ≤ b) (hrb : w.heap.size ≤ rb) (ho : Ris Q ∧ Q.length ≤ 500) : SayAt w w' ab cs t sb cb rb n k R Q := by
  obtain ⟨S', m, q1, q2, q3⟩ := h.ex
  have hz := hx.size
  have hlt := hb.1.lt
  refine ⟨⟨S', m, q1, hr.kp q2 q3, ⟨q2.Blk hb.1 hb.2.1, fun hm => ?_, hb.2.2⟩, Kp.ext hx q2 hS, fun b hb => ?_, hrb⟩, ho⟩
  · rcases q3 _ hm with h' | h'
    · exact hb.2.1 h'
    · omega
  · rcases q3 b hb with h' | h'
    · exact hS b h'
    · omega
section
variable {w wr : World} {ab : Nat} {cs : Array Value} {t : TypeId} {sb cb rb n k : Nat} {R Q : List Ent}
theorem SayAt.check (h : SayAt w wr ab cs t sb cb rb n k R Q) {ao : Option Addr} {cap : Nat} {l : List Ent} (hl : EntsAt w ao l) :
    Calls Tryz.prog 24 #[.pointer (some ⟨sb, 0, none⟩), .slice ao l.length cap] wr fun e w' => e = .returned (errV (writeF R l)) ∧ Ext wr w' := by
  obtain ⟨S, m, h1, h2, h3, h4, h5, h6⟩ := h.ex
  exact h1.chk (Aside3.old hl h4 h5)
theorem SayAt.fault (h : SayAt w wr ab cs t sb cb rb n k R Q) {ao : Option Addr} {cap : Nat} {l : List Ent} (hll : l.length ≤ 9223372036854775807) (hl : EntsAt w ao l) :
    Calls Tryz.prog 25 #[.pointer (some ⟨rb, 0, none⟩), .slice ao l.length cap] wr fun e w' => e = .returned (.int .i64 (writeF Q l)) ∧ Ext wr w' := by
  obtain ⟨S, m, h1, h2, h3, h4, h5, h6⟩ := h.ex
  exact rFault_any wr S rb Q ao cap l h2 h.ok.1 h.ok.2 hll (hl.ext2 h4)
theorem SayAt.write (h : SayAt w wr ab cs t sb cb rb n k R Q) (hn : n ≤ 80000) {ao : Option Addr} {cap : Nat} {l : List Ent} (hl : EntsAt w ao l) :
    Calls Tryz.prog 26 #[.pointer (some ⟨sb, 0, none⟩), .slice ao l.length cap] wr fun e w' => e = .returned (errV (writeF R l)) ∧ SayAt w w' ab cs t sb cb rb (n + 9) k (wrR R l) Q := by
  obtain ⟨S, m, h1, h2, h3, h4, h5, h6⟩ := h.ex
  exact (h1.wr hn (Aside3.old hl h4 h5)).mono fun _ _ hh => ⟨hh.1, hh.2.say h2 h3 h4 h5 h6 h.ok⟩
theorem SayAt.flush (h : SayAt w wr ab cs t sb cb rb n k R Q) (hn : n ≤ 80000) :
    Calls Tryz.prog 28 #[.pointer (some ⟨sb, 0, none⟩)] wr fun e w' => e = .returned .nilIface ∧ SayAt w w' ab cs t sb cb rb (n + 9) k R Q := by
  obtain ⟨S, m, h1, h2, h3, h4, h5, h6⟩ := h.ex
  exact (h1.flush hn).mono fun _ _ hh => ⟨hh.1, hh.2.say h2 h3 h4 h5 h6 h.ok⟩
theorem SayAt.compact (h : SayAt w wr ab cs t sb cb rb n k R Q) (hn : n ≤ 80000) :
    Calls Tryz.prog 29 #[.pointer (some ⟨sb, 0, none⟩)] wr fun e w' => e = .returned .nilIface ∧ SayAt w w' ab cs t sb cb rb (n + 9) k R Q := by
  obtain ⟨S, m, h1, h2, h3, h4, h5, h6⟩ := h.ex
  exact (h1.compact hn).mono fun _ _ hh => ⟨hh.1, (hh.2.say h2 h3 h4 h5 h6 h.ok).le (by omega) (Nat.le_refl _)⟩
theorem SayAt.weaken (h : SayAt w wr ab cs t sb cb rb n k R Q) (hk : k + 1 ≤ 6) (b : Int) :
    Calls Tryz.prog 30 #[.pointer (some ⟨cb, 0, none⟩), .int .i64 b] wr fun e w' => (∃ v, e = .returned v) ∧ SayAt w w' ab cs t sb cb rb (n + 9) (k + 1) R Q := by
  obtain ⟨S, m, h1, h2, h3, h4, h5, h6⟩ := h.ex
  exact (h1.weaken hk b).mono fun _ _ hh => ⟨⟨_, hh.1⟩, (hh.2.say h2 h3 h4 h5 h6 h.ok).le (by omega) (Nat.le_refl _)⟩
theorem SayAt.open (h : SayAt w wr ab cs t sb cb rb n k R Q) :
    Calls Tryz.prog 20 #[.pointer (some ⟨cb, 0, none⟩)] wr fun e w' => ∃ tb, e = .returned (.tuple #[.pointer (some ⟨tb, 0, none⟩), .nilIface]) ∧ SayAt w w' ab cs t tb cb rb n k R Q := by
  obtain ⟨S, m, h1, h2, h3, h4, h5, h6⟩ := h.ex
  obtain ⟨M, a, x, N, O, q1, _⟩ := h1.ex
  have hcS := q1.cS.1
  have hz := h4.size
  have hlt := h3.1.lt
  refine h1.open.mono fun _ w' hh => ?_
  obtain ⟨tb, T, r1, r2, r3, r4⟩ := hh
  have hT : ∀ b ∈ T, b ∈ S ∨ wr.heap.size ≤ b := fun b hb => by
    rcases r4 b hb with e | e
    · subst e; exact .inl hcS
    · exact .inr e
  refine ⟨tb, r1, ⟨⟨T, m, r2, h2.kp (Kp.ofExt r3 S) hT, ⟨h3.1.ext r3, fun hm => ?_, h3.2.2⟩, h4.trans r3, fun b hb => ?_, h6⟩, h.ok⟩⟩
  · rcases hT _ hm with h' | h'
    · exact h3.2.1 h'
    · omega
  · rcases hT b hb with h' | h'
    · exact h5 b h'
    · omega
theorem wrR_ok (hQ : Ris Q ∧ Q.length ≤ 500) (l : List Ent) : Ris (wrR Q l) ∧ (wrR Q l).length ≤ 500 := by
  unfold wrR
  split
  · rename_i hw
    have := (writeF_ok hw).2.2.2.2.2
    exact ⟨(hQ.1.puts l).live, by omega⟩
  · exact hQ
theorem SayAt.rwrite (h : SayAt w wr ab cs t sb cb rb n k R Q) {ao : Option Addr} {cap : Nat} {l : List Ent} (hll : l.length ≤ 9223372036854775807) (hl : EntsAt w ao l) :
    Calls Tryz.prog 27 #[.pointer (some ⟨rb, 0, none⟩), .slice ao l.length cap] wr fun e w' => e = .returned (.int .i64 (writeF Q l)) ∧ SayAt w w' ab cs t sb cb rb n k R (wrR Q l) := by
  obtain ⟨S, m, h1, h2, h3, h4, h5, h6⟩ := h.ex
  refine (rWrite_any wr S rb Q ao cap l h2 h1.lt h.ok.1 h.ok.2 hll (hl.ext2 h4)).mono fun _ w' hh => ⟨hh.1, ?_⟩
  have hK := hh.2.2
  refine ⟨⟨S, m, h1.kp hK (fun b hb hm => ?_) (fun hm => ?_), hh.2.1, ⟨hK.Blk h3.1 (fun hm => ?_), h3.2⟩, Kp.ext h4 hK (fun b hb => ?_), h5, h6⟩, wrR_ok h.ok l⟩
  · simp at hm; subst hm; exact h2.no hb
  · simp at hm; exact h2.gl hm
  · simp at hm; exact h3.2.2 hm
  · simp at hb; subst hb; exact h6
/-- What is asked for, as text. -/
def valO (o : Option Ent) : ByteArray := match o with | some e => e.val | none => ⟨#[]⟩
theorem SayAt.get (h : SayAt w wr ab cs t sb cb rb n k R Q) (key : ByteArray) (hk : key.size ≤ 1000) :
    Calls Tryz.prog 31 #[.pointer (some ⟨sb, 0, none⟩), .string key] wr fun e w' => e = .returned (.tuple #[.string (valO (getE R key)), .bool (getE R key).isSome, .nilIface]) ∧ Ext wr w' := by
  obtain ⟨S, m, h1, h2⟩ := h.ex
  refine (h1.get key (by omega)).mono fun _ _ hh => ⟨?_, hh.2⟩
  rw [hh.1]
  unfold getR
  rw [getE_live' h1.plain.2.1 key]
  cases getE R key <;> rfl
theorem refGetV (ao : Option Addr) (cap : Nat) (es : List Ent) (key : ByteArray) (W : World) (hl : es.length ≤ 9223372036854775807) (hes : EntsAt W ao es) :
    Calls Tryz.prog 32 #[.slice ao es.length cap, .string key] W fun e w' => ∃ kk gg, e = .returned (.tuple #[.agg #[.string kk, .string (valO (getE es key)), .bool gg], .bool (getE es key).isSome]) ∧ Ext W w' := by
  refine (refGet_any ao cap es key W hl hes).mono fun _ _ hh => ?_
  refine ⟨((getE es key).getD noEnt).key, ((getE es key).getD noEnt).gone, ?_, hh.2⟩
  rw [hh.1]
  cases getE es key <;> rfl
theorem SayAt.rows (h : SayAt w wr ab cs t sb cb rb n k R Q) :
    Calls Tryz.prog 33 #[.pointer (some ⟨sb, 0, none⟩)] wr fun e w' => ∃ ro rc, e = .returned (.tuple #[.slice ro R.length rc, .nilIface]) ∧ EntsAt w' ro R ∧ Ext wr w' := by
  obtain ⟨S, m, h1, _⟩ := h.ex
  obtain ⟨M, a, x, N, O, q1, hI, q3, _⟩ := h1.ex
  refine (rows_any wr S sb cb M m a x N O q1 hI.nst.up hI.nw hI.od hI.tn hI.told (by have := hI.few; have := hI.few'; omega) (by
      obtain ⟨g, _, hL⟩ := hI.lg
      have := hL.ris.2.2
      simp at this; omega)).mono fun _ _ hh => ?_
  rw [q3] at hh
  obtain ⟨v, rfl, hv⟩ := hh
  obtain ⟨ro, rc, rfl, r1, r2⟩ := hv.len
  exact ⟨ro, rc, rfl, r1, r2⟩
theorem SayAt.few (h : SayAt w wr ab cs t sb cb rb n k R Q) : R.length ≤ 40 := by
  obtain ⟨S, m, h1⟩ := h.up
  exact h1.few
end
/-- A chip without a manifest is no store. -/
theorem find_blank (cb : Nat) (W : World) (h : ChipAt W cb newM) : Calls Tryz.prog 57 #[.pointer (some ⟨cb, 0, none⟩)] W fun e w' => e = .returned (.tuple #[.agg #[.int .i64 0, .int .i64 0, .slice none 0 0, .slice none 0 0], .int .i64 0, .iface 110 (.int .i64 4)]) ∧ Ext W w' := by
  refine (find_up cb newM W h rfl).mono ?_
  rw [find_none new_nst]
  rintro e w' ⟨hx, (⟨m', a', a1, c1, a2, c2, hh, rfl, n1, n2⟩ | ⟨hh, rfl⟩)⟩
  · cases hh
  · exact ⟨rfl, hx⟩
set_option maxRecDepth 20000 in
set_option maxHeartbeats 1000000 in
theorem open_blank (cb : Nat) (W : World) (h : ChipAt W cb newM) : Calls Tryz.prog 20 #[.pointer (some ⟨cb, 0, none⟩)] W fun e w' => e = .returned (.tuple #[.pointer none, .iface 110 (.int .i64 4)]) ∧ Ext W w' := by
  have HF : Hid (Calls Tryz.prog 57 #[.pointer (some ⟨cb, 0, none⟩)] W fun e w' => e = .returned (.tuple #[.agg #[.int .i64 0, .int .i64 0, .slice none 0 0, .slice none 0 0], .int .i64 0, .iface 110 (.int .i64 4)]) ∧ Ext W w') := find_blank cb W h
  clear h
  generalize newM = A at *
  go_enter Tryz.func20, Tryz.ntmps20
  go_wp2_with (go_at_call 57; refine HF.out.mono ?_; rintro e w1 ⟨rfl, hx1⟩)
  go_ret2
  exact ⟨rfl, hx1.alloc _⟩

set_option maxRecDepth 20000 in
set_option maxHeartbeats 2000000 in
theorem stores_any (w : World) (hg : GlobT w) : Calls Tryz.prog 17 #[] w fun e w' => e = .returned (.bool true) ∧ Ext w w' := by
  have HS : Hid (Calls Tryz.prog 23 #[] w fun e w' => ∃ cb sb S, e = .returned (.tuple #[.pointer (some ⟨cb, 0, none⟩), .pointer (some ⟨sb, 0, none⟩), .bool true]) ∧ Up 4 w' S sb cb fm 0 [] ∧ Ext w w' ∧ ∀ b ∈ S, w.heap.size ≤ b) := (stored_any w hg).mono fun _ _ h => h.up
  have HC := wrkC w
  generalize afterE [] [oneE] = R at *
  go_enter Tryz.func17, Tryz.ntmps17
  go_wp2_with (first
    | (go_at_call 23; refine HS.out.mono ?_; rintro e w1 ⟨cb, sb, S, rfl, hU1, hx1, hS1⟩)
    | (go_at_call 26; refine (HC.wr _ _ _ _ hU1 hS1 hx1).mono ?_; rintro e w2 ⟨rfl, S2, m2, hU2, hx2, hS2⟩)
    | (go_at_call 28; refine (HC.fl _ _ _ _ _ hU2 hS2 hx2).mono ?_; rintro e w3 ⟨rfl, S3, m3, hU3, hx3, hS3⟩)
    | (go_at_call 20; refine (HC.op _ _ _ _ _ hU3 hx3).mono ?_; rintro e w4 ⟨tb, T, rfl, hU4, hx4⟩)
    | (go_at_call 31; refine (HC.gt _ _ _ _ _ hU4 hx4).mono ?_; rintro e w5 ⟨rfl, hx5⟩))
  go_ret
  exact ⟨rfl, hx5⟩
end Go.Proofs.YthndopokabceiaaGreatDoor
