/- SayA ConJ ConK ConL ConM ConN. -/
import Derived.Test.YtkibgflbidkalaaGreatDoorTopKJ
import Derived.Test.YtkibgflbidkalaaGreatDoorRstAJ
import Derived.Test.YtkibgflbidkalaaGreatDoorConIJ
import Derived.Deep.RegionHeld3
import Derived.Deep.DeepCutAuto
import Derived.Deep.RegionWith
import Derived.Maps.AppendAt

/- A store, and the document's beside it. -/
namespace Go.Proofs.YtkibgflbidkalaaGreatDoor
open Go.RowKit Go.WideShapes

structure SayAt (w wr : World) (ab : Nat) (cs : Array Value) (t : TypeId) (sb cb rb n k : Nat) (R Q : List Ent) : Prop where
  ex : ∃ S m, Up n wr S sb cb m k R ∧ RefSt wr S rb Q ∧ (Blk wr ab cs t ∧ ab ∉ S ∧ ¬ ab = rb) ∧ Ext w wr ∧ (∀ b ∈ S, w.heap.size ≤ b) ∧ w.heap.size ≤ rb
  ok : Ris Q ∧ Q.length ≤ 500
theorem SayAt.ext {w wr w' : World} {ab : Nat} {cs : Array Value} {t : TypeId} {sb cb rb n k : Nat} {R Q : List Ent} (h : SayAt w wr ab cs t sb cb rb n k R Q) (hx : Ext wr w') : SayAt w w' ab cs t sb cb rb n k R Q := by
  obtain ⟨S, m, h1, h2, h3, h4, h5⟩ := h.ex
  exact ⟨⟨S, m, h1.ext hx, h2.ext hx, ⟨h3.1.ext hx, h3.2⟩, h4.trans hx, h5⟩, h.ok⟩
theorem SayAt.x {w wr : World} {ab : Nat} {cs : Array Value} {t : TypeId} {sb cb rb n k : Nat} {R Q : List Ent} (h : SayAt w wr ab cs t sb cb rb n k R Q) : Ext w wr := by
  obtain ⟨S, m, h1, h2, h3, h4, h5⟩ := h.ex
  exact h4
section
variable {w wr : World} {ab : Nat} {cs : Array Value} {t : TypeId} {sb cb rb n k : Nat} {R Q : List Ent}
def valO (o : Option Ent) : ByteArray := match o with | some e => e.val | none => ⟨#[]⟩
theorem refGetV (ao : Option Addr) (cap : Nat) (es : List Ent) (key : ByteArray) (W : World) (hl : es.length ≤ 9223372036854775807) (hes : EntsAt W ao es) :
    Calls Tryz.prog 18 #[.slice ao es.length cap, .string key] W fun e w' => ∃ kk gg, e = .returned (.tuple #[.agg #[.string kk, .string (valO (getE es key)), .bool gg], .bool (getE es key).isSome]) ∧ Ext W w' := by
  refine (refGet_any ao cap es key W hl hes).mono fun _ _ hh => ?_
  refine ⟨((getE es key).getD noEnt).key, ((getE es key).getD noEnt).gone, ?_, hh.2⟩
  rw [hh.1]
  cases getE es key <;> rfl
end
end Go.Proofs.YtkibgflbidkalaaGreatDoor

/- The document's session. -/
namespace Go.Proofs.YtkibgflbidkalaaGreatDoor
open Go.RowKit Go.WideShapes

structure Pln (R : List Ent) : Prop where
  ris : Ris R
  few : R.length ≤ 40
  gone : ∀ e ∈ R, e.gone = false
  ok : ∀ e ∈ R, faultE e = 0
theorem Pln.nil : Pln [] := ⟨Ris.nil, by simp, by simp, by simp⟩
theorem Pln.wr {R : List Ent} (h : Pln R) (l : List Ent) : Pln (wrR R l) := by
  unfold wrR
  by_cases hw : writeF R l = 0
  · rw [if_pos hw]
    obtain ⟨_, _, _, hl, _, h40⟩ := writeF_ok hw
    refine ⟨(h.ris.puts l).live, h40, fun e he => ?_, fun e he => ?_⟩
    · have := (List.mem_filter.1 he).2
      simpa using this
    · rcases puts_mem l R e (List.mem_filter.1 he).1 with h' | h'
      · exact hl e h'
      · exact h.ok e h'
  · rw [if_neg hw]; exact h
theorem Pln.ans {R : List Ent} (h : Pln R) (s : ByteArray) : Pln (ansR R s) := by
  unfold ansR wrtR
  split
  · exact h
  · split
    · split
      · exact h
      · exact h.wr _
    · exact h
theorem Pln.small {R : List Ent} (h : Pln R) : ∀ e ∈ R, e.key.size ≤ 8 ∧ e.val.size ≤ 16 := fun e he => fault_zero (h.ok e he)
theorem Pln.all {R : List Ent} (h : Pln R) : pgE R ⟨#[]⟩ 40 = R := by
  unfold pgE
  have e0 : R.filter (fun e => Op.bytesLess (⟨#[]⟩ : ByteArray).toList e.key.toList) = R := by
    rw [List.filter_eq_self]
    intro e he
    have h0 := h.ok e he
    have hne : e.key.toList ≠ [] := fun hh => by
      unfold faultE faultB at h0
      rw [if_pos (.inl hh)] at h0
      exact absurd h0 (by decide)
    have hee : (⟨#[]⟩ : ByteArray).toList = [] := by kernel_rfl
    rw [hee]
    cases hk : e.key.toList with
    | nil => exact absurd hk hne
    | cons a l => rfl
  rw [e0]
  exact List.take_of_length_le h.few
def gL (g : Option (Nat × Obj)) : List Nat := g.toList.map (·.1)
structure Doc (w wr : World) (xb rb : Nat) (g : Option (Nat × Obj)) (R : List Ent) : Prop where
  st : RefSt wr (xb :: gL g) rb R
  blk : Blk wr xb #[.pointer (some ⟨rb, 0, none⟩)] 35
  x : Ext w wr
  ge : w.heap.size ≤ rb ∧ w.heap.size ≤ xb
  asd : Asd wr [rb] xb g
theorem Doc.ext {w wr w' : World} {xb rb : Nat} {g : Option (Nat × Obj)} {R : List Ent} (h : Doc w wr xb rb g R) (hx : Ext wr w') : Doc w w' xb rb g R := ⟨h.st.ext hx, h.blk.ext hx, h.x.trans hx, h.ge, h.asd.ext hx⟩
theorem Doc.rows {w wr : World} {xb rb : Nat} {g : Option (Nat × Obj)} {R : List Ent} (h : Doc w wr xb rb g R) : ∃ ro rc, (∀ W, Ext wr W → W.cell? ⟨xb, 0, none⟩ = some (.pointer (some ⟨rb, 0, none⟩)) ∧ W.cell? ⟨rb, 0, none⟩ = some (.slice ro R.length rc)) ∧ EntsAt wr ro R := by
  obtain ⟨ro, rc, q1, q2⟩ := h.st.ex
  exact ⟨ro, rc, fun W hx => ⟨(h.blk.ext hx).cell 0, (q1.ext hx).cell 0⟩, q2.at_⟩
theorem Doc.write {w wr : World} {xb rb : Nat} {g : Option (Nat × Obj)} {R : List Ent} (h : Doc w wr xb rb g R) (hp : Pln R) {ao : Option Addr} {cap : Nat} {l : List Ent} (hll : l.length ≤ 9223372036854775807) (hl : EntsAt wr ao l) :
    Calls Tryz.prog 16 #[.pointer (some ⟨rb, 0, none⟩), .slice ao l.length cap] wr fun e w' => e = .returned (.int .i64 (writeF R l)) ∧ Doc w w' xb rb g (wrR R l) := by
  have hxl := h.blk.lt
  have hlt : ∀ b ∈ xb :: gL g, b < wr.heap.size := fun b hb => by
    rcases List.mem_cons.1 hb with rfl | hb
    · exact hxl
    · obtain ⟨⟨b', o⟩, hm, rfl⟩ := List.mem_map.1 hb
      exact heap_lt (h.asd b' o (by cases g <;> simp_all)).1
  refine (rWrite_any wr (xb :: gL g) rb R ao cap l h.st hlt hp.ris (by have := hp.few; omega) hll hl).mono fun _ w' hh => ⟨hh.1, ?_⟩
  have hK := hh.2.2
  refine ⟨hh.2.1, hK.Blk h.blk (fun hm => ?_), Kp.ext h.x hK (fun b hb => ?_), h.ge, h.asd.kp hK (fun b hb => .inl hb)⟩
  · simp at hm; exact h.st.no (by simp [hm])
  · simp at hb; subst hb; exact h.ge.1
theorem parse_len {t : ByteArray} {l : List Ent} (h : parseE t = some l) : l.length ≤ 4 := by
  unfold parseE at h
  by_cases hz : (textT (chgsE t)).2 = 0
  · rw [if_pos hz] at h
    cases h
    by_cases hn : (chgsE t).length = 0 ∨ 4 < (chgsE t).length
    · rw [textT_many _ hn] at hz; cases hz
    · omega
  · rw [if_neg hz] at h; cases h
theorem rsplit_ws (s : ByteArray) (W : World) (hs : s.size ≤ 1000) {a : ByteArray} {r : List ByteArray} (h : wordsL s = a :: r) :
    Calls Tryz.prog 14 #[.string s] W fun e w' => ∃ b off cap, e = .returned (.slice (some ⟨b, off, none⟩) (a :: r).length cap) ∧ (∀ (i : Nat) x, (a :: r)[i]? = some x → w'.cell? ⟨b, off + i, none⟩ = some (.string x)) ∧ Ext W w' :=
  (rsplit_any s W hs).mono fun _ w' hh => by
    obtain ⟨v, rfl, hS⟩ := hh
    rw [h] at hS
    obtain ⟨ao, cap, rfl, hA⟩ := hS.at
    obtain ⟨b, off, rfl, hc⟩ := hA (by simp)
    exact ⟨b, off, cap, rfl, hc, hS.ext⟩
section
variable {w wr : World} {xb rb : Nat} {g : Option (Nat × Obj)} {R : List Ent}
set_option maxRecDepth 20000 in
set_option maxHeartbeats 2000000 in
theorem say_long (s : ByteArray) (hs : 60 < s.size) (hl : s.size ≤ 1000) :
    Calls Tryz.prog 7 #[.pointer (some ⟨xb, 0, none⟩), .string s] wr fun e w' => e = .returned (.string (errT 4)) ∧ Ext wr w' := by
  have HF : Hid (Calls Tryz.prog 13 #[.int .i64 4] wr fun e w' => e = .returned (.string (errT 4)) ∧ Ext wr w') := rfaultN_any 4 wr (by decide)
  have h60 : (60 : Int) < (s.size : Int) := by omega
  generalize errT 4 = T at *
  go_enter Tryz.func7, Tryz.ntmps7
  go_wp2_with (go_at_call 13; refine HF.out.mono ?_; rintro e w1 ⟨rfl, hx1⟩)
  go_ret
  exact ⟨rfl, hx1⟩
set_option maxRecDepth 20000 in
set_option maxHeartbeats 4000000 in
theorem say_write (h : Doc w wr xb rb g R) (hp : Pln R) (s : ByteArray) (hs : s.size ≤ 60) (hw : isW s = true) :
    Calls Tryz.prog 7 #[.pointer (some ⟨xb, 0, none⟩), .string s] wr fun e w' => e = .returned (.string (wrtT (wrtF R (s.extract 6 s.size)))) ∧ Doc w w' xb rb g (wrtR R (s.extract 6 s.size)) := by
  obtain ⟨b', r', hwd, _⟩ := isW_words hw
  have hs6 : 6 ≤ s.size := by
    unfold isW Lib.hasPrefix at hw
    rw [List.isPrefixOf_iff_prefix] at hw
    have := hw.length_le
    rw [Lib.size_eq]
    simpa using this
  have HSP : Hid (Calls Tryz.prog 14 #[.string s] wr fun e w' => ∃ b off cap, e = .returned (.slice (some ⟨b, off, none⟩) (r'.length + 2) cap) ∧ w'.cell? ⟨b, off, none⟩ = some (.string ⟨#[119, 114, 105, 116, 101]⟩) ∧ Ext wr w') := (rsplit_ws s wr (by omega) hwd).mono fun _ w' hh => by
    obtain ⟨b, off, cap, q1, q2, q3⟩ := hh
    exact ⟨b, off, cap, q1, q2 0 _ rfl, q3⟩
  have hx1' : ((⟨#[119, 114, 105, 116, 101]⟩ : ByteArray).toList == [119, 114, 105, 116, 101]) = true := by kernel_rfl
  have HFA : Hid (∀ (f : Nat) W, f < 10 → Calls Tryz.prog 13 #[.int .i64 (f : Int)] W fun e w' => e = .returned (.string (errT f)) ∧ Ext W w') := fun f W hf => rfaultN_any f W hf
  have h60 : ¬ (60 : Int) < (s.size : Int) := by omega
  have h6s : (6 : Int) ≤ (s.size : Int) := by omega
  have hr1 : (1 : Int) < ((r'.length + 2 : Nat) : Int) := by omega
  have hr1' : (1 : Int) < (r'.length : Int) + 2 := by omega
  have HRB : Hid (∀ W, Calls Tryz.prog 15 #[.string (s.extract 6 s.size)] W fun e w' => RfE W w' e (parseE (s.extract 6 s.size))) := fun W => rbatch_any _ W (by simp; omega)
  have hbd := wrtF_bd R (s.extract 6 s.size)
  clear hwd hw
  generalize ht : s.extract 6 s.size = t at *
  cases hpe : parseE t with
  | none =>
    have hf : wrtF R t = 4 := by unfold wrtF; rw [hpe]
    have hr : wrtR R t = R := by unfold wrtR; rw [hpe]
    rw [hf, hr]
    have HD : Hid (Doc w wr xb rb g R) := h
    have HRB' : Hid (∀ W, Calls Tryz.prog 15 #[.string t] W fun e w' => ∃ ao c, e = .returned (.tuple #[.slice ao 0 c, .int .i64 4]) ∧ Ext W w') := fun W => (HRB.out W).mono fun _ w' hh => by
      rw [hpe] at hh
      obtain ⟨v, h1, h2⟩ := hh.ex
      obtain ⟨ao, c, rfl, _⟩ := h2.at
      exact ⟨ao, c, h1, h2.ext⟩
    have HF4 : Hid (∀ W, Calls Tryz.prog 13 #[.int .i64 4] W fun e w' => e = .returned (.string (wrtT 4)) ∧ Ext W w') := fun W => HFA.out 4 W (by decide)
    clear h hp HRB hf hr hpe HFA hbd
    generalize wrtT 4 = T at *
    go_enter Tryz.func7, Tryz.ntmps7
    go_wp2_with (first
      | (go_at_call 14; refine HSP.out.mono ?_; rintro e w1 ⟨b, off, cap, rfl, hc1, hx1⟩)
      | (go_at_call 15; refine (HRB'.out _).mono ?_; rintro e w2 ⟨ao, c, rfl, hx2⟩)
      | (go_at_call 13; refine (HF4.out _).mono ?_; rintro e w3 ⟨rfl, hx3⟩))
    go_ret
    exact ⟨rfl, HD.out.ext ((hx1.trans hx2).trans hx3)⟩
  | some l =>
    have hf : wrtF R t = writeF R l := by unfold wrtF; rw [hpe]
    have hr : wrtR R t = wrR R l := by unfold wrtR; rw [hpe]
    rw [hf] at hbd
    rw [hf, hr]
    have HK : Hid (∀ W, Ext wr W → W.cell? ⟨xb, 0, none⟩ = some (.pointer (some ⟨rb, 0, none⟩))) := fun W hx => (h.blk.ext hx).cell 0
    have HRB' : Hid (∀ W, Ext wr W → Calls Tryz.prog 15 #[.string t] W fun e w' => ∃ ao c, e = .returned (.tuple #[.slice ao l.length c, .int .i64 0]) ∧ Ext W w' ∧ Hid (Calls Tryz.prog 16 #[.pointer (some ⟨rb, 0, none⟩), .slice ao l.length c] w' fun e w2 => e = .returned (.int .i64 (writeF R l)) ∧ Doc w w2 xb rb g (wrR R l))) := fun W hx => (HRB.out W).mono fun _ w' hh => by
      rw [hpe] at hh
      obtain ⟨v, h1, h2⟩ := hh.ex
      obtain ⟨ao, c, rfl, hE⟩ := h2.at
      exact ⟨ao, c, h1, h2.ext, (h.ext (hx.trans h2.ext)).write hp (by have := parse_len hpe; omega) hE⟩
    obtain ⟨f, hfz⟩ : ∃ f : Nat, writeF R l = (f : Int) := ⟨(writeF R l).toNat, by omega⟩
    rw [hfz] at HRB' ⊢
    rw [hfz] at hbd
    have hf10 : f < 10 := by omega
    clear h hp HRB hf hr hpe hfz hbd
    by_cases hf0 : f = 0
    · subst hf0
      have hwt : wrtT (0 : Int) = okT := rfl
      clear HFA
      go_enter Tryz.func7, Tryz.ntmps7
      go_wp2_with (first
        | (go_at_call 14; refine HSP.out.mono ?_; rintro e w1 ⟨b, off, cap, rfl, hc1, hx1⟩)
        | (go_at_call 15; refine (HRB'.out _ hx1).mono ?_; rintro e w2 ⟨ao, c, rfl, hx2, HW⟩; have k0 := HK.out _ (hx1.trans hx2))
        | (go_at_call 16; refine HW.out.mono ?_; rintro e w3 ⟨rfl, hD⟩))
      go_ret
      exact ⟨rfl, hD⟩
    · have hfp : (0 : Int) < (f : Int) := by omega
      have HFF : Hid (∀ W, Calls Tryz.prog 13 #[.int .i64 (f : Int)] W fun e w' => e = .returned (.string (wrtT (f : Int))) ∧ Ext W w') := fun W => by
        have e1 : wrtT (f : Int) = errT f := by unfold wrtT; rw [if_neg (by omega)]; rfl
        rw [e1]
        exact HFA.out f W hf10
      clear HFA
      generalize wrtT (f : Int) = T at *
      go_enter Tryz.func7, Tryz.ntmps7
      go_wp2_with (first
        | (go_at_call 14; refine HSP.out.mono ?_; rintro e w1 ⟨b, off, cap, rfl, hc1, hx1⟩)
        | (go_at_call 15; refine (HRB'.out _ hx1).mono ?_; rintro e w2 ⟨ao, c, rfl, hx2, HW⟩; have k0 := HK.out _ (hx1.trans hx2))
        | (go_at_call 16; refine HW.out.mono ?_; rintro e w3 ⟨rfl, hD⟩)
        | (go_at_call 13; refine (HFF.out _).mono ?_; rintro e w4 ⟨rfl, hx4⟩))
      go_ret
      exact ⟨rfl, hD.ext hx4⟩
end
end Go.Proofs.YtkibgflbidkalaaGreatDoor

/- The document's session: lines of one word, of two, of three, of more. -/
namespace Go.Proofs.YtkibgflbidkalaaGreatDoor
open Go.RowKit Go.WideShapes

section
variable {w wr : World} {xb rb : Nat} {g : Option (Nat × Obj)} {R : List Ent}
set_option maxRecDepth 20000 in
set_option maxHeartbeats 4000000 in
theorem say_one (h : Doc w wr xb rb g R) (hp : Pln R) (s : ByteArray) (hs : s.size ≤ 60) (hw : wordsL s = [s]) :
    Calls Tryz.prog 7 #[.pointer (some ⟨xb, 0, none⟩), .string s] wr fun e w' => e = .returned (.string (oneA R s)) ∧ Ext wr w' := by
  have HSP : Hid (Calls Tryz.prog 14 #[.string s] wr fun e w' => ∃ b off cap, e = .returned (.slice (some ⟨b, off, none⟩) 1 cap) ∧ w'.cell? ⟨b, off, none⟩ = some (.string s) ∧ Ext wr w') := (rsplit_ws s wr (by omega) hw).mono fun _ w' hh => by
    obtain ⟨b, off, cap, q1, q2, q3⟩ := hh
    exact ⟨b, off, cap, q1, q2 0 _ rfl, q3⟩
  have HF4 : Hid (∀ W, Calls Tryz.prog 13 #[.int .i64 4] W fun e w' => e = .returned (.string (errT 4)) ∧ Ext W w') := fun W => rfaultN_any 4 W (by decide)
  obtain ⟨ro, rc, HK0, hE0⟩ := h.rows
  have HK : Hid (∀ W, Ext wr W → W.cell? ⟨xb, 0, none⟩ = some (.pointer (some ⟨rb, 0, none⟩)) ∧ W.cell? ⟨rb, 0, none⟩ = some (.slice ro R.length rc)) := HK0
  have HTD : Hid (∀ W, Ext wr W → Calls Tryz.prog 17 #[.slice ro R.length rc] W fun e w' => e = .returned (.string (rowsT R)) ∧ Ext W w') := fun W hx => rtold_any ro rc R W hp.few (hE0.ext hx) hp.small
  have h60 : ¬ (60 : Int) < (s.size : Int) := by omega
  have hall := hp.all
  unfold oneA
  rw [hall]
  clear h hp hw HK0 hE0 hall
  generalize rowsT R = RT at *
  generalize errT 4 = T4 at *
  have hok : okT = ⟨#[111, 107]⟩ := rfl
  rw [hok]
  clear hok
  by_cases hwr : (s.toList == [119, 114, 105, 116, 101]) = true
  · have h1 : (s.toList == [114, 111, 119, 115]) = false := by rw [eq_of_beq hwr]; rfl
    have h2 : (s.toList == [102, 108, 117, 115, 104]) = false := by rw [eq_of_beq hwr]; rfl
    have h3 : (s.toList == [99, 111, 109, 112, 97, 99, 116]) = false := by rw [eq_of_beq hwr]; rfl
    have h4 : (s.toList == [111, 112, 101, 110]) = false := by rw [eq_of_beq hwr]; rfl
    rw [h1, h2, h3, h4]
    simp only [Bool.false_eq_true, if_false]
    go_enter Tryz.func7, Tryz.ntmps7
    go_wp2_with (first
      | (go_at_call 14; refine HSP.out.mono ?_; rintro e w1 ⟨b, off, cap, rfl, hc1, hx1⟩)
      | (go_at_call 13; refine (HF4.out _).mono ?_; rintro e w3 ⟨rfl, hx3⟩))
    go_ret
    exact ⟨rfl, hx1.trans hx3⟩
  · have h0 : (s.toList == [119, 114, 105, 116, 101]) = false := by simpa using hwr
    clear hwr
    by_cases h1 : (s.toList == [114, 111, 119, 115]) = true
    · rw [if_pos h1]
      go_enter Tryz.func7, Tryz.ntmps7
      go_wp2_with (first
        | (go_at_call 14; refine HSP.out.mono ?_; rintro e w1 ⟨b, off, cap, rfl, hc1, hx1⟩; obtain ⟨k0, k1⟩ := HK.out _ hx1)
        | (go_at_call 17; refine (HTD.out _ hx1).mono ?_; rintro e w3 ⟨rfl, hx3⟩))
      go_ret
      exact ⟨rfl, hx1.trans hx3⟩
    have h1' : (s.toList == [114, 111, 119, 115]) = false := by simpa using h1
    rw [if_neg h1]
    clear h1
    by_cases h2 : (s.toList == [102, 108, 117, 115, 104]) = true
    · rw [if_pos h2]
      go_enter Tryz.func7, Tryz.ntmps7
      go_wp2_with (go_at_call 14; refine HSP.out.mono ?_; rintro e w1 ⟨b, off, cap, rfl, hc1, hx1⟩)
      go_ret
      exact ⟨rfl, hx1⟩
    have h2' : (s.toList == [102, 108, 117, 115, 104]) = false := by simpa using h2
    rw [if_neg h2]
    clear h2
    by_cases h3 : (s.toList == [99, 111, 109, 112, 97, 99, 116]) = true
    · rw [if_pos h3]
      go_enter Tryz.func7, Tryz.ntmps7
      go_wp2_with (go_at_call 14; refine HSP.out.mono ?_; rintro e w1 ⟨b, off, cap, rfl, hc1, hx1⟩)
      go_ret
      exact ⟨rfl, hx1⟩
    have h3' : (s.toList == [99, 111, 109, 112, 97, 99, 116]) = false := by simpa using h3
    rw [if_neg h3]
    clear h3
    by_cases h4 : (s.toList == [111, 112, 101, 110]) = true
    · rw [if_pos h4]
      go_enter Tryz.func7, Tryz.ntmps7
      go_wp2_with (go_at_call 14; refine HSP.out.mono ?_; rintro e w1 ⟨b, off, cap, rfl, hc1, hx1⟩)
      go_ret
      exact ⟨rfl, hx1⟩
    have h4' : (s.toList == [111, 112, 101, 110]) = false := by simpa using h4
    rw [if_neg h4]
    clear h4
    go_enter Tryz.func7, Tryz.ntmps7
    go_wp2_with (first
      | (go_at_call 14; refine HSP.out.mono ?_; rintro e w1 ⟨b, off, cap, rfl, hc1, hx1⟩)
      | (go_at_call 13; refine (HF4.out _).mono ?_; rintro e w3 ⟨rfl, hx3⟩))
    go_ret
    exact ⟨rfl, hx1.trans hx3⟩
set_option maxRecDepth 20000 in
set_option maxHeartbeats 4000000 in
theorem say_more (s : ByteArray) (hs : s.size ≤ 60) {a : ByteArray} {r : List ByteArray} (hw : wordsL s = a :: r) (ha : (a.toList == [119, 114, 105, 116, 101]) = false) (hr : 3 ≤ r.length) :
    Calls Tryz.prog 7 #[.pointer (some ⟨xb, 0, none⟩), .string s] wr fun e w' => e = .returned (.string (errT 4)) ∧ Ext wr w' := by
  have HSP : Hid (Calls Tryz.prog 14 #[.string s] wr fun e w' => ∃ b off cap, e = .returned (.slice (some ⟨b, off, none⟩) (r.length + 1) cap) ∧ w'.cell? ⟨b, off, none⟩ = some (.string a) ∧ Ext wr w') := (rsplit_ws s wr (by omega) hw).mono fun _ w' hh => by
    obtain ⟨b, off, cap, q1, q2, q3⟩ := hh
    exact ⟨b, off, cap, q1, q2 0 _ rfl, q3⟩
  have HF4 : Hid (∀ W, Calls Tryz.prog 13 #[.int .i64 4] W fun e w' => e = .returned (.string (errT 4)) ∧ Ext W w') := fun W => rfaultN_any 4 W (by decide)
  have h60 : ¬ (60 : Int) < (s.size : Int) := by omega
  generalize errT 4 = T4 at *
  obtain ⟨q, hq⟩ : ∃ q, r.length = q + 3 := ⟨r.length - 3, by omega⟩
  rw [hq] at HSP
  have q1 : (((q + 3 + 1 : Nat) : Int) == 1) = false := by rw [beq_eq_false_iff_ne]; omega
  have q2 : (((q + 3 + 1 : Nat) : Int) == 2) = false := by rw [beq_eq_false_iff_ne]; omega
  have q3 : (((q + 3 + 1 : Nat) : Int) == 3) = false := by rw [beq_eq_false_iff_ne]; omega
  have q0 : (0 : Int) < ((q + 3 + 1 : Nat) : Int) := by omega
  obtain ⟨z, hz⟩ : ∃ z, q + 3 + 1 = z := ⟨_, rfl⟩
  rw [hz] at HSP q1 q2 q3 q0
  clear hw hr hq hz
  go_enter Tryz.func7, Tryz.ntmps7
  go_wp2_with (first
    | (go_at_call 14; refine HSP.out.mono ?_; rintro e w1 ⟨b, off, cap, rfl, hc1, hx1⟩)
    | (go_at_call 13; refine (HF4.out _).mono ?_; rintro e w3 ⟨rfl, hx3⟩))
  go_ret
  exact ⟨rfl, hx1.trans hx3⟩
set_option maxRecDepth 20000 in
set_option maxHeartbeats 4000000 in
theorem say_three (h : Doc w wr xb rb g R) (hp : Pln R) (s a b c : ByteArray) (hs : s.size ≤ 60) (hw : wordsL s = [a, b, c]) (ha : (a.toList == [119, 114, 105, 116, 101]) = false) :
    Calls Tryz.prog 7 #[.pointer (some ⟨xb, 0, none⟩), .string s] wr fun e w' => e = .returned (.string (threeA R a b c)) ∧ Ext wr w' := by
  have HSP : Hid (Calls Tryz.prog 14 #[.string s] wr fun e w' => ∃ b' off cap, e = .returned (.slice (some ⟨b', off, none⟩) 3 cap) ∧ (w'.cell? ⟨b', off, none⟩ = some (.string a) ∧ w'.cell? ⟨b', off + 1, none⟩ = some (.string b) ∧ w'.cell? ⟨b', off + 2, none⟩ = some (.string c)) ∧ Ext wr w') := (rsplit_ws s wr (by omega) hw).mono fun _ w' hh => by
    obtain ⟨b', off, cap, q1, q2, q3⟩ := hh
    exact ⟨b', off, cap, q1, ⟨q2 0 _ rfl, q2 1 _ rfl, q2 2 _ rfl⟩, q3⟩
  have hcs : c.size ≤ 60 := by have := word_size hw (x := c) (by simp); omega
  have HF4 : Hid (∀ W, Calls Tryz.prog 13 #[.int .i64 4] W fun e w' => e = .returned (.string (errT 4)) ∧ Ext W w') := fun W => rfaultN_any 4 W (by decide)
  have HNA : Hid (∀ W, Calls Tryz.prog 19 #[.string c, .int .i64 999] W fun e w' => e = .returned (.int .i64 (natI c)) ∧ W = w') := fun W => natural_any c W (by omega)
  obtain ⟨ro, rc, HK0, hE0⟩ := h.rows
  have HK : Hid (∀ W, Ext wr W → W.cell? ⟨xb, 0, none⟩ = some (.pointer (some ⟨rb, 0, none⟩)) ∧ W.cell? ⟨rb, 0, none⟩ = some (.slice ro R.length rc)) := HK0
  have h60 : ¬ (60 : Int) < (s.size : Int) := by omega
  have hnn := nat_num c
  have hfew := hp.few
  have HPT : Hid (∀ (n : Int) W, Ext wr W → Calls Tryz.prog 20 #[.slice ro R.length rc, .string b, .int .i64 n] W fun e w' => ∃ po pc, e = .returned (.slice po (pgE R b n).length pc) ∧ EntsAt w' po (pgE R b n) ∧ Ext W w') := fun n W hx => (rpaged_any ro rc R b n W (by omega) (hE0.ext hx)).mono fun _ w' hh => by
    obtain ⟨v, rfl, hL⟩ := hh
    obtain ⟨po, pc, rfl, hE⟩ := hL.at
    exact ⟨po, pc, rfl, hE, hL.ext⟩
  have HTD : Hid (∀ (n : Int) W po pc, EntsAt W po (pgE R b n) → Calls Tryz.prog 17 #[.slice po (pgE R b n).length pc] W fun e w' => e = .returned (.string (rowsT (pgE R b n))) ∧ Ext W w') := fun n W po pc hE => rtold_any po pc (pgE R b n) W (pgE_small hfew b n) hE (fun e he => hp.small e (pgE_mem he))
  unfold threeA
  clear h hp hw HK0 hE0
  generalize errT 4 = T4 at *
  cases hk : numO c with
  | none =>
    rw [hk] at hnn
    rw [hnn] at HNA
    clear hnn hk
    dsimp only
    by_cases hpg : (a.toList == [112, 97, 103, 101]) = true
    · go_enter Tryz.func7, Tryz.ntmps7
      go_wp2_with (first
        | (go_at_call 14; refine HSP.out.mono ?_; rintro e w1 ⟨b', off, cap, rfl, ⟨hc1, hc2, hc3⟩, hx1⟩)
        | (go_at_call 19; refine (HNA.out _).mono ?_; rintro e w2 ⟨rfl, rfl⟩)
        | (go_at_call 13; refine (HF4.out _).mono ?_; rintro e w3 ⟨rfl, hx3⟩))
      go_ret
      exact ⟨rfl, hx1.trans hx3⟩
    · have hpg' : (a.toList == [112, 97, 103, 101]) = false := by simpa using hpg
      clear hpg
      go_enter Tryz.func7, Tryz.ntmps7
      go_wp2_with (first
        | (go_at_call 14; refine HSP.out.mono ?_; rintro e w1 ⟨b', off, cap, rfl, ⟨hc1, hc2, hc3⟩, hx1⟩)
        | (go_at_call 19; refine (HNA.out _).mono ?_; rintro e w2 ⟨rfl, rfl⟩)
        | (go_at_call 13; refine (HF4.out _).mono ?_; rintro e w3 ⟨rfl, hx3⟩))
      go_ret
      exact ⟨rfl, hx1.trans hx3⟩
  | some n =>
    rw [hk] at hnn
    rw [hnn] at HNA
    dsimp only at HNA ⊢
    have hn0 : (0 : Int) ≤ (n : Int) := by omega
    clear hnn hk
    by_cases hpg : (a.toList == [112, 97, 103, 101]) = true
    · rw [if_pos hpg]
      have HP2 : Hid (∀ W, Ext wr W → Calls Tryz.prog 20 #[.slice ro R.length rc, .string b, .int .i64 (n : Int)] W fun e w' => ∃ po pc, e = .returned (.slice po (pgE R b n).length pc) ∧ EntsAt w' po (pgE R b n) ∧ Ext W w') := HPT.out n
      have HT2 : Hid (∀ W po pc, EntsAt W po (pgE R b n) → Calls Tryz.prog 17 #[.slice po (pgE R b n).length pc] W fun e w' => e = .returned (.string (rowsT (pgE R b n))) ∧ Ext W w') := HTD.out n
      clear HPT HTD
      generalize pgE R b (n : Int) = P at *
      generalize rowsT P = RT at *
      go_enter Tryz.func7, Tryz.ntmps7
      go_wp2_with (first
        | (go_at_call 14; refine HSP.out.mono ?_; rintro e w1 ⟨b', off, cap, rfl, ⟨hc1, hc2, hc3⟩, hx1⟩)
        | (go_at_call 19; refine (HNA.out _).mono ?_; rintro e w2 ⟨rfl, rfl⟩))
      have HC2 : Hid (∀ W, Ext w1 W → W.cell? ⟨xb, 0, none⟩ = some (.pointer (some ⟨rb, 0, none⟩)) ∧ W.cell? ⟨rb, 0, none⟩ = some (.slice ro R.length rc) ∧ W.cell? ⟨b', off + 1, none⟩ = some (.string b)) := fun W hx => ⟨(HK.out _ (hx1.trans hx)).1, (HK.out _ (hx1.trans hx)).2, hx.cell hc2⟩
      obtain ⟨k0, k1, k2⟩ := HC2.out w1 (Ext.refl _)
      go_region_held3 (fun W => W.cell? ⟨xb, 0, none⟩ = some (.pointer (some ⟨rb, 0, none⟩)) ∧ W.cell? ⟨rb, 0, none⟩ = some (.slice ro R.length rc) ∧ W.cell? ⟨b', off + 1, none⟩ = some (.string b))
        (first | (go_keep; done) | exact HC2.out _ hX4 | exact HC2.out _ (hX4.trans hx5))
        (first
          | (go_at_call 20; refine (HP2.out _ (Ext.trans hx1 (by repeat (first | exact Ext.refl _ | refine Ext.drew ?_ | refine Ext.drewN ?_ _)))).mono ?_; rintro e w4 ⟨po, pc, rfl, hE4, hx4⟩; have hX4 : Ext w1 w4 := Ext.trans (by repeat (first | exact Ext.refl _ | refine Ext.drew ?_ | refine Ext.drewN ?_ _)) hx4)
          | (go_at_call 17; refine (HT2.out _ po pc (hE4.ext (by repeat (first | exact Ext.refl _ | refine Ext.drew ?_ | refine Ext.drewN ?_ _)))).mono ?_; rintro e w5 ⟨rfl, hx5'⟩; have hx5 : Ext w4 w5 := Ext.trans (by repeat (first | exact Ext.refl _ | refine Ext.drew ?_ | refine Ext.drewN ?_ _)) hx5'))
      go_wp2
      go_ret
      exact ⟨rfl, (hx1.trans hX4).trans hx5⟩
    · rw [if_neg hpg]
      have hpg' : (a.toList == [112, 97, 103, 101]) = false := by simpa using hpg
      clear hpg HPT HTD
      go_enter Tryz.func7, Tryz.ntmps7
      go_wp2_with (first
        | (go_at_call 14; refine HSP.out.mono ?_; rintro e w1 ⟨b', off, cap, rfl, ⟨hc1, hc2, hc3⟩, hx1⟩)
        | (go_at_call 19; refine (HNA.out _).mono ?_; rintro e w2 ⟨rfl, rfl⟩)
        | (go_at_call 13; refine (HF4.out _).mono ?_; rintro e w3 ⟨rfl, hx3⟩))
      go_ret
      exact ⟨rfl, hx1.trans hx3⟩
end
end Go.Proofs.YtkibgflbidkalaaGreatDoor

/- The document's session: lines of two words; every line. -/
namespace Go.Proofs.YtkibgflbidkalaaGreatDoor
open Go.RowKit Go.WideShapes

section
variable {w wr : World} {xb rb : Nat} {g : Option (Nat × Obj)} {R : List Ent}
set_option maxRecDepth 20000 in
set_option maxHeartbeats 8000000 in
theorem say_get (h : Doc w wr xb rb g R) (hp : Pln R) (s a b : ByteArray) (hs : s.size ≤ 60) (hw : wordsL s = [a, b]) (ha : (a.toList == [103, 101, 116]) = true) :
    Calls Tryz.prog 7 #[.pointer (some ⟨xb, 0, none⟩), .string s] wr fun e w' => e = .returned (.string (getT R b)) ∧ Ext wr w' := by
  have HSP : Hid (Calls Tryz.prog 14 #[.string s] wr fun e w' => ∃ b' off cap, e = .returned (.slice (some ⟨b', off, none⟩) 2 cap) ∧ (w'.cell? ⟨b', off, none⟩ = some (.string a) ∧ w'.cell? ⟨b', off + 1, none⟩ = some (.string b)) ∧ Ext wr w') := (rsplit_ws s wr (by omega) hw).mono fun _ w' hh => by
    obtain ⟨b', off, cap, q1, q2, q3⟩ := hh
    exact ⟨b', off, cap, q1, ⟨q2 0 _ rfl, q2 1 _ rfl⟩, q3⟩
  have HF5 : Hid (∀ W, Calls Tryz.prog 13 #[.int .i64 5] W fun e w' => e = .returned (.string (errT 5)) ∧ Ext W w') := fun W => rfaultN_any 5 W (by decide)
  obtain ⟨ro, rc, HK0, hE0⟩ := h.rows
  have HK : Hid (∀ W, Ext wr W → W.cell? ⟨xb, 0, none⟩ = some (.pointer (some ⟨rb, 0, none⟩)) ∧ W.cell? ⟨rb, 0, none⟩ = some (.slice ro R.length rc)) := HK0
  have h60 : ¬ (60 : Int) < (s.size : Int) := by omega
  have hfew := hp.few
  have HG : Hid (∀ W, Ext wr W → Calls Tryz.prog 18 #[.slice ro R.length rc, .string b] W fun e w' => ∃ kk gg, e = .returned (.tuple #[.agg #[.string kk, .string (valO (getE R b)), .bool gg], .bool (getE R b).isSome]) ∧ Ext W w') := fun W hx => refGetV ro rc R b W (by omega) (hE0.ext hx)
  have ha0 : (a.toList == [119, 114, 105, 116, 101]) = false := by rw [eq_of_beq ha]; rfl
  have HT : Hid (((getE R b).isSome = false → getT R b = errT 5) ∧ ((getE R b).isSome = true → getT R b = ⟨#[61]⟩ ++ valO (getE R b)) ∧ (valO (getE R b)).size ≤ 16) := by
    unfold getT valO
    cases hg : getE R b with
    | none => exact ⟨fun _ => rfl, fun h => (by cases h), by show (0 : Nat) ≤ 16; decide⟩
    | some e => exact ⟨fun h => (by cases h), fun _ => rfl, (hp.small e (getE_mem hg).1).2⟩
  clear h hp hw HK0 hE0
  generalize valO (getE R b) = V at *
  generalize (getE R b).isSome = B at *
  generalize getT R b = RT at *
  generalize errT 5 = T5 at *
  go_enter Tryz.func7, Tryz.ntmps7
  go_wp2_with (go_at_call 14; refine HSP.out.mono ?_; rintro e w1 ⟨b', off, cap, rfl, ⟨hc1, hc2⟩, hx1⟩)
  have HC2 : Hid (∀ W, Ext w1 W → W.cell? ⟨xb, 0, none⟩ = some (.pointer (some ⟨rb, 0, none⟩)) ∧ W.cell? ⟨rb, 0, none⟩ = some (.slice ro R.length rc) ∧ W.cell? ⟨b', off + 1, none⟩ = some (.string b)) := fun W hx => ⟨(HK.out _ (hx1.trans hx)).1, (HK.out _ (hx1.trans hx)).2, hx.cell hc2⟩
  obtain ⟨k0, k1, k2⟩ := HC2.out w1 (Ext.refl _)
  have HX1 : Hid (Ext wr w1) := hx1
  clear hc1 hc2
  go_cut [8, 9] (fun p ok wx => ∃ pb kk gg, p = .pointer (some ⟨pb, 0, none⟩) ∧ ok = .bool B ∧ Blk wx pb #[.string kk, .string V, .bool gg] 56 ∧ Ext w1 wx)
  case first =>
    go_region_held3 (fun W => W.cell? ⟨xb, 0, none⟩ = some (.pointer (some ⟨rb, 0, none⟩)) ∧ W.cell? ⟨rb, 0, none⟩ = some (.slice ro R.length rc) ∧ W.cell? ⟨b', off + 1, none⟩ = some (.string b))
      (first | (go_keep; done) | exact HC2.out _ hX2 | exact HC2.out _ (hX2.alloc _) | exact HC2.out _ (((hX2.set (Nat.le_refl _) _).set (Nat.le_refl _) _).set (Nat.le_refl _) _) | exact HC2.out _ ((Ext.refl _).alloc _))
      (first | (go_at_call 18; refine (HG.out _ (Ext.trans HX1.out (by repeat (first | assumption | exact Ext.refl _ | refine Ext.drew ?_ | refine Ext.drewN ?_ _ | refine Ext.alloc ?_ _)))).mono ?_; rintro e' w2 ⟨kk, gg, rfl, hx2⟩; have hX2 : Ext w1 w2 := Ext.trans (by repeat (first | assumption | exact Ext.refl _ | refine Ext.drew ?_ | refine Ext.drewN ?_ _ | refine Ext.alloc ?_ _)) hx2; (first | (have nbk : Blk w2 w1.heap.size #[.string ⟨#[]⟩, .string ⟨#[]⟩, .bool false] 56 := Blk.ext hx2 (Blk.new w1 #[.string ⟨#[]⟩, .string ⟨#[]⟩, .bool false] 56); have n0 : w2.cell? ⟨w1.heap.size, 0, none⟩ = some (.string ⟨#[]⟩) := nbk.cell 0; have n1 : w2.cell? ⟨w1.heap.size, 1, none⟩ = some (.string ⟨#[]⟩) := nbk.cell 1; have n2 : w2.cell? ⟨w1.heap.size, 2, none⟩ = some (.bool false) := nbk.cell 2; have f0 := nbk.free 0; have f1 := nbk.free 1; have f2 := nbk.free 2) | (have nbk : Blk w2 w1.heap.size #[.string ⟨#[]⟩, .string ⟨#[]⟩, .bool false] 56 := Blk.ext hx2 ((Blk.new w1 #[.string ⟨#[]⟩, .string ⟨#[]⟩, .bool false] 56).drew); have n0 : w2.cell? ⟨w1.heap.size, 0, none⟩ = some (.string ⟨#[]⟩) := nbk.cell 0; have n1 : w2.cell? ⟨w1.heap.size, 1, none⟩ = some (.string ⟨#[]⟩) := nbk.cell 1; have n2 : w2.cell? ⟨w1.heap.size, 2, none⟩ = some (.bool false) := nbk.cell 2; have f0 := nbk.free 0; have f1 := nbk.free 1; have f2 := nbk.free 2) | (have nbk : Blk w2 w1.heap.size #[.string ⟨#[]⟩, .string ⟨#[]⟩, .bool false] 56 := Blk.ext hx2 (Blk.new w1.drew #[.string ⟨#[]⟩, .string ⟨#[]⟩, .bool false] 56); have n0 : w2.cell? ⟨w1.heap.size, 0, none⟩ = some (.string ⟨#[]⟩) := nbk.cell 0; have n1 : w2.cell? ⟨w1.heap.size, 1, none⟩ = some (.string ⟨#[]⟩) := nbk.cell 1; have n2 : w2.cell? ⟨w1.heap.size, 2, none⟩ = some (.bool false) := nbk.cell 2; have f0 := nbk.free 0; have f1 := nbk.free 1; have f2 := nbk.free 2) | (have nbk : Blk w2 w1.heap.size #[.string ⟨#[]⟩, .string ⟨#[]⟩, .bool false] 56 := Blk.ext hx2 ((Blk.new w1.drew #[.string ⟨#[]⟩, .string ⟨#[]⟩, .bool false] 56).drew); have n0 : w2.cell? ⟨w1.heap.size, 0, none⟩ = some (.string ⟨#[]⟩) := nbk.cell 0; have n1 : w2.cell? ⟨w1.heap.size, 1, none⟩ = some (.string ⟨#[]⟩) := nbk.cell 1; have n2 : w2.cell? ⟨w1.heap.size, 2, none⟩ = some (.bool false) := nbk.cell 2; have f0 := nbk.free 0; have f1 := nbk.free 1; have f2 := nbk.free 2) | skip)))
    all_goals
      go_wp2_with fail
      go_meet
      first
        | exact ⟨w2.heap.size, kk, gg, rfl, rfl, Blk.new _ _ _, hX2.alloc _⟩
        | exact ⟨w1.heap.size, kk, gg, rfl, rfl, by simpa using ((nbk.set 0 (.string kk)).set 1 (.string V)).set 2 (.bool gg), ((hX2.set (Nat.le_refl _) _).set (Nat.le_refl _) _).set (Nat.le_refl _) _⟩
  case rest =>
    obtain ⟨pb, kk, gg, rfl, rfl, hP, hx2⟩ := hcut
    have p1 : wc.cell? ⟨pb, 1, none⟩ = some (.string V) := hP.cell 1
    have HXC : Hid (Ext wr wc) := HX1.out.trans hx2
    obtain ⟨ht1, ht2, hv⟩ := HT.out
    clear hP HT k0 k1 k2 HC2 HG HK
    cases B with
    | false =>
      have hrt := ht1 rfl
      clear ht1 ht2
      subst hrt
      go_wp2_with (go_at_call 13; refine (HF5.out _).mono ?_; rintro e w3 ⟨rfl, hx3⟩)
      go_ret
      exact ⟨rfl, HXC.out.trans hx3⟩
    | true =>
      have hrt := ht2 rfl
      clear ht1 ht2
      subst hrt
      go_wp2_with fail
      go_ret
      exact ⟨rfl, HXC.out⟩
set_option maxRecDepth 20000 in
set_option maxHeartbeats 4000000 in
theorem say_two (s a b : ByteArray) (hs : s.size ≤ 60) (hw : wordsL s = [a, b]) (ha : (a.toList == [119, 114, 105, 116, 101]) = false) (hg : (a.toList == [103, 101, 116]) = false) :
    Calls Tryz.prog 7 #[.pointer (some ⟨xb, 0, none⟩), .string s] wr fun e w' => e = .returned (.string (twoA R a b)) ∧ Ext wr w' := by
  have HSP : Hid (Calls Tryz.prog 14 #[.string s] wr fun e w' => ∃ b' off cap, e = .returned (.slice (some ⟨b', off, none⟩) 2 cap) ∧ (w'.cell? ⟨b', off, none⟩ = some (.string a) ∧ w'.cell? ⟨b', off + 1, none⟩ = some (.string b)) ∧ Ext wr w') := (rsplit_ws s wr (by omega) hw).mono fun _ w' hh => by
    obtain ⟨b', off, cap, q1, q2, q3⟩ := hh
    exact ⟨b', off, cap, q1, ⟨q2 0 _ rfl, q2 1 _ rfl⟩, q3⟩
  have hbs : b.size ≤ 60 := by have := word_size hw (x := b) (by simp); omega
  have HF4 : Hid (∀ W, Calls Tryz.prog 13 #[.int .i64 4] W fun e w' => e = .returned (.string (errT 4)) ∧ Ext W w') := fun W => rfaultN_any 4 W (by decide)
  have HNA : Hid (∀ W, Calls Tryz.prog 19 #[.string b, .int .i64 999] W fun e w' => e = .returned (.int .i64 (natI b)) ∧ W = w') := fun W => natural_any b W (by omega)
  have h60 : ¬ (60 : Int) < (s.size : Int) := by omega
  have hnn := nat_num b
  have hok : okT = ⟨#[111, 107]⟩ := rfl
  have hA1 : numO b = none → twoA R a b = errT 4 := fun hk => by unfold twoA; rw [hg, if_neg (by simp), hk]
  have hA2 : ∀ n, numO b = some n → (a.toList == [114, 101, 115, 116, 97, 114, 116]) = true → twoA R a b = okT := fun n hk hr => by unfold twoA; rw [hg, if_neg (by simp), hk]; exact if_pos hr
  have hA3 : ¬ (a.toList == [114, 101, 115, 116, 97, 114, 116]) = true → twoA R a b = errT 4 := fun hr => by
    unfold twoA
    rw [hg, if_neg (by simp)]
    cases numO b with
    | none => rfl
    | some n => exact if_neg hr
  rw [hok] at hA2
  clear hok hw
  generalize errT 4 = T4 at *
  generalize twoA R a b = res at *
  by_cases hr : (a.toList == [114, 101, 115, 116, 97, 114, 116]) = true
  · cases hk : numO b with
    | none =>
      rw [hk] at hnn
      rw [hnn] at HNA
      have hres := hA1 hk
      subst hres
      clear hnn hk hA1 hA2 hA3
      go_enter Tryz.func7, Tryz.ntmps7
      go_wp2_with (first
        | (go_at_call 14; refine HSP.out.mono ?_; rintro e w1 ⟨b', off, cap, rfl, ⟨hc1, hc2⟩, hx1⟩)
        | (go_at_call 19; refine (HNA.out _).mono ?_; rintro e w2 ⟨rfl, rfl⟩)
        | (go_at_call 13; refine (HF4.out _).mono ?_; rintro e w3 ⟨rfl, hx3⟩))
      go_ret
      exact ⟨rfl, hx1.trans hx3⟩
    | some n =>
      rw [hk] at hnn
      rw [hnn] at HNA
      dsimp only at HNA
      have hres := hA2 n hk hr
      subst hres
      have hn0 : (0 : Int) ≤ (n : Int) := by omega
      clear hnn hk hA1 hA2 hA3
      go_enter Tryz.func7, Tryz.ntmps7
      go_wp2_with (first
        | (go_at_call 14; refine HSP.out.mono ?_; rintro e w1 ⟨b', off, cap, rfl, ⟨hc1, hc2⟩, hx1⟩)
        | (go_at_call 19; refine (HNA.out _).mono ?_; rintro e w2 ⟨rfl, rfl⟩))
      go_ret
      exact ⟨rfl, hx1⟩
  · have hr' : (a.toList == [114, 101, 115, 116, 97, 114, 116]) = false := by simpa using hr
    have hres := hA3 hr
    subst hres
    clear hr hnn HNA hA1 hA2 hA3
    go_enter Tryz.func7, Tryz.ntmps7
    go_wp2_with (first
      | (go_at_call 14; refine HSP.out.mono ?_; rintro e w1 ⟨b', off, cap, rfl, ⟨hc1, hc2⟩, hx1⟩)
      | (go_at_call 13; refine (HF4.out _).mono ?_; rintro e w3 ⟨rfl, hx3⟩))
    go_ret
    exact ⟨rfl, hx1.trans hx3⟩
end
theorem Doc.say {w wr : World} {xb rb : Nat} {g : Option (Nat × Obj)} {R : List Ent} (h : Doc w wr xb rb g R) (hp : Pln R) (s : ByteArray) (hs : s.size ≤ 1000) :
    Calls Tryz.prog 7 #[.pointer (some ⟨xb, 0, none⟩), .string s] wr fun e w' => e = .returned (.string (ansE R s)) ∧ Doc w w' xb rb g (ansR R s) := by
  unfold ansE ansR
  by_cases h60 : 60 < s.size
  · rw [if_pos h60, if_pos h60]
    exact (say_long s h60 hs).mono fun _ _ hh => ⟨hh.1, h.ext hh.2⟩
  rw [if_neg h60, if_neg h60]
  cases hw : isW s with
  | true =>
    rw [if_pos rfl, if_pos rfl]
    exact say_write h hp s (by omega) hw
  | false =>
    rw [if_neg (by simp), if_neg (by simp)]
    have hnw : ∀ a b r, wordsL s = a :: b :: r → (a.toList == [119, 114, 105, 116, 101]) = false := fun a b r hl => by
      cases ha : (a.toList == [119, 114, 105, 116, 101]) with
      | false => rfl
      | true => have := words_isW hl ha; rw [hw] at this; cases this
    match hl : wordsL s with
    | [] => obtain ⟨a, r, h'⟩ := words_some s; rw [h'] at hl; cases hl
    | [a] =>
      have ha := words_one hl
      subst ha
      exact (say_one h hp a (by omega) hl).mono fun _ _ hh => ⟨hh.1, h.ext hh.2⟩
    | [a, b] =>
      cases hg : (a.toList == [103, 101, 116]) with
      | true =>
        have e : wordsA R [a, b] = getT R b := by
          show twoA R a b = _
          unfold twoA; rw [if_pos hg]
        rw [e]
        exact (say_get h hp s a b (by omega) hl hg).mono fun _ _ hh => ⟨hh.1, h.ext hh.2⟩
      | false => exact (say_two s a b (by omega) hl (hnw a b [] hl) hg).mono fun _ _ hh => ⟨hh.1, h.ext hh.2⟩
    | [a, b, c] => exact (say_three h hp s a b c (by omega) hl (hnw a b [c] hl)).mono fun _ _ hh => ⟨hh.1, h.ext hh.2⟩
    | a :: b :: c :: d :: r => exact (say_more s (by omega) hl (hnw a b _ hl) (by simp)).mono fun _ _ hh => ⟨hh.1, h.ext hh.2⟩
end Go.Proofs.YtkibgflbidkalaaGreatDoor

/- Texts that are gathered while something else goes on; lists of texts held against each other. -/
namespace Go.Proofs.YtkibgflbidkalaaGreatDoor
open Go.RowKit Go.WideShapes

structure HoldS (W0 w : World) (v : Value) (xs : List ByteArray) (g : Option (Nat × Obj)) : Prop where
  at_ : ∀ b o, g = some (b, o) → w.heap[b]? = some o ∧ v.ownBlock = some b
  own : ∀ b, v.ownBlock = some b → ∃ o, g = some (b, o)
  back : ∀ w', (∀ b o, g = some (b, o) → w'.heap[b]? = some o) → Ext W0 w' → Sls W0 w' v xs
theorem Sls.hold {W0 w : World} {v : Value} {xs : List ByteArray} (h : Sls W0 w v xs) : ∃ g, HoldS W0 w v xs g := by
  rcases h.own.2 with ⟨rfl, h0⟩ | ⟨g, cap, cur, rfl, hb, hgg, rest⟩
  · have hx : xs = [] := List.eq_nil_of_length_eq_zero h0
    subst hx
    exact ⟨none, fun b o e => (by cases e), fun b e => (by cases e), fun w' _ hx => Sls.nil hx⟩
  · refine ⟨some (g, _), fun b o e => (by cases e; exact ⟨hgg, rfl⟩), fun b e => (by cases e; exact ⟨_, rfl⟩), fun w' h' hx => ⟨⟨h.own.1, .inr ⟨g, cap, cur, rfl, hb, h' _ _ rfl, rest⟩⟩, hx⟩⟩
theorem wpList_app_strA {w : World} {ops : Array Oper} {rest : List Oper} {o : Oper} {a : Act} {Q : Exit → Act → World → Prop} (hgd : o.guard = none) (s x : Operand)
    (ho : o.op = .call { callee := .builtin .append, args := #[s, x], argTypes := #[22, 22] })
    (W0 : World) (v : Value) (xs : List ByteArray) (hs : a.eval s = v) (hl : Sls W0 w v xs) (g : Nat) (t : ByteArray) (hx : a.eval x = .slice (some ⟨g, 0, none⟩) 1 1)
    (hb : Blk w g #[.string t] 9) (hn : xs.length ≤ 100000)
    (h : ∀ v' w', Sls W0 w' v' (xs ++ [t]) → w.grownBy w' v.ownBlock → (v'.ownBlock = v.ownBlock ∨ v'.ownBlock = some w.heap.size) → wpList Tryz.prog ops Q rest (a.put o.dst v') w') : wpList Tryz.prog ops Q (o :: rest) a w := by
  obtain ⟨i0, hi, hz0, hz1, hz2⟩ := info_parts Tryz.infoStr
  refine wpList_append_own_at w hgd s x 22 ho W0.heap.size 9 i0 (.string ⟨#[]⟩) 1 16 Tryz.underlying22 hi hz0 hz1 hz2 rfl (by decide) v xs.length (xs.map Value.string) hs hl.own ⟨g, 0, none⟩ 1 1 [.string t] hx rfl ?_ ?_ ?_ ?_ hl.ext.size ?_
  · intro j u hj
    match j, hj with
    | 0, hj => simp at hj; subst hj; exact hb.cell 0
    | j + 1, hj => simp at hj
  · intro u hu; simp only [List.mem_cons, List.not_mem_nil, or_false] at hu; rcases hu with rfl; rfl
  · unfold maxLen; omega
  · omega
  · intro v' w' p q _ r
    refine h v' w' ⟨?_, hl.ext.grown q (own_ge hl.own)⟩ q r
    rw [List.map_append, List.length_append]; exact p
set_option maxRecDepth 20000 in
set_option maxHeartbeats 2000000 in
theorem sameTexts_eq (ao bo : Option Addr) (ca cb : Nat) (xs : List ByteArray) (w : World) (hl : xs.length ≤ 1000) (ha : StrsAt w ao xs) (hb : StrsAt w bo xs) :
    Calls Tryz.prog 8 #[.slice ao xs.length ca, .slice bo xs.length cb] w fun e w' => e = .returned (.bool true) ∧ Ext w w' := by
  go_enter Tryz.func8, Tryz.ntmps8
  go_wp2
  go_loopw [5] (fun i w' => ∃ k q : Nat, k ≤ xs.length ∧ i = .int .i64 k ∧ w' = w.drewN q) (fun i _ => xs.length - (intOf i).toNat)
  case atStart => exact ⟨0, 0, Nat.zero_le _, rfl, rfl⟩
  case round =>
    obtain ⟨k, q, hk, rfl, rfl⟩ := hrel
    by_cases hlt : k < xs.length
    · obtain ⟨b, off, x, rfl, he, h1⟩ := ha.get hlt
      obtain ⟨b', off', x', rfl, he', g1⟩ := hb.get hlt
      obtain rfl : x = x' := by rw [he] at he'; simpa using he'
      clear he he' ha hb
      go_wp2
      go_quiet (fail)
      go_wp2
      go_roundw
      case rel => exact ⟨k + 1, _, by omega, by go_num, rfl⟩
      case measure => simp [intOf]; omega
    · clear ha hb
      go_wp2
      go_ret
      exact ⟨rfl, (Ext.refl _).drewN _⟩
end Go.Proofs.YtkibgflbidkalaaGreatDoor

/- A session run: line by line. -/
namespace Go.Proofs.YtkibgflbidkalaaGreatDoor
open Go.RowKit Go.WideShapes

structure SS where
  n : Nat
  M : CM
  m : Man
  a : Nat
  hand : List Ent
  N : List Tb
  O : List Tb
structure SesQ (w W : World) (rb : Nat) (g : Option (Nat × Obj)) (C : SS → Prop) : Prop where
  ex : ∃ z : SS, SesX w W rb z.n g z.M z.m z.a z.hand z.N z.O ∧ C z
theorem SesQ.ext {w W W' : World} {rb : Nat} {g : Option (Nat × Obj)} {C : SS → Prop} (h : SesQ w W rb g C) (hx : Ext W W') : SesQ w W' rb g C := by
  obtain ⟨z, h1, h2⟩ := h.ex
  exact ⟨z, h1.ext hx, h2⟩
theorem SesQ.x {w W : World} {rb : Nat} {g : Option (Nat × Obj)} {C : SS → Prop} (h : SesQ w W rb g C) : Ext w W := by
  obtain ⟨z, h1, h2⟩ := h.ex
  exact h1.x
theorem SesX.regrow {w W W' W0 : World} {rb n : Nat} {g g' : Option (Nat × Obj)} {M : CM} {m : Man} {a : Nat} {hand : List Ent} {N O : List Tb} {v v' : Value} {xs xs' : List ByteArray} (h : SesX w W rb n g M m a hand N O) (hh : HoldS W0 W v xs g) (hh' : HoldS W0 W' v' xs' g') (hgl : 1 < w.heap.size) (h0 : w.heap.size ≤ W0.heap.size) (hb : ∀ b, v.ownBlock = some b → W0.heap.size ≤ b) (hgr : W.grownBy W' v.ownBlock) (hor : v'.ownBlock = v.ownBlock ∨ v'.ownBlock = some W.heap.size) : SesX w W' rb n g' M m a hand N O := by
  obtain ⟨S, cb, sb, x, h1, h2, h3, h4, h5, h6, h7⟩ := h.ex
  have hlt := h4.lt
  cases ho : v.ownBlock with
  | none =>
    rw [ho] at hgr hor
    have hx : Ext W W' := Ext.grown (Ext.refl W) hgr (fun b hb => by cases hb)
    refine ⟨⟨S, cb, sb, x, h1.ext hx, h2, h3, h4.ext hx, h5, h6, fun b o e => ?_⟩, h.ge, h.gl, h.x.trans hx⟩
    obtain ⟨q1, q2⟩ := hh'.at_ b o e
    have hbn : b = W.heap.size := by
      rcases hor with h' | h'
      · rw [h'] at q2; cases q2
      · rw [h'] at q2; cases q2; rfl
    refine ⟨q1, fun hm => ?_, fun e => ?_⟩
    · have := h1.lt b hm; omega
    · omega
  | some k =>
    rw [ho] at hgr hor
    obtain ⟨o0, hg⟩ := hh.own k ho
    obtain ⟨_, hkS, hkr⟩ := h7 k o0 hg
    have hK : Kp W W' [k] := Kp.grown hgr
    have hkw : w.heap.size ≤ k := Nat.le_trans h0 (hb k ho)
    have hgk : ¬ 1 = k := fun e => by omega
    refine ⟨⟨S, cb, sb, x, h1.kp h3.nst.up hK (fun b hb hm => by simp at hm; subst hm; exact hkS hb) (fun hm => by simp at hm; exact hgk hm), h2, h3, hK.Blk h4 (fun hm => by simp at hm; exact hkr hm.symm), h5, h6, fun b o e => ?_⟩, h.ge, h.gl, Kp.ext h.x hK (fun b hb => by simp at hb; subst hb; exact hkw)⟩
    obtain ⟨q1, q2⟩ := hh'.at_ b o e
    rcases hor with h' | h'
    · rw [h'] at q2
      cases q2
      exact ⟨q1, hkS, hkr⟩
    · rw [h'] at q2
      cases q2
      exact ⟨q1, fun hm => by have := h1.lt _ hm; omega, fun e => by omega⟩
theorem SesX.drop {w W : World} {rb n : Nat} {g : Option (Nat × Obj)} {M : CM} {m : Man} {a : Nat} {hand : List Ent} {N O : List Tb} (h : SesX w W rb n g M m a hand N O) : SesX w W rb n none M m a hand N O := by
  obtain ⟨S, cb, sb, x, h1, h2, h3, h4, h5, h6, h7⟩ := h.ex
  exact ⟨⟨S, cb, sb, x, h1, h2, h3, h4, h5, h6, fun b o e => by cases e⟩, h.ge, h.gl, h.x⟩
structure SesO (w W : World) (rb : Nat) (v : Value) (xs : List ByteArray) (C : SS → Prop) : Prop where
  ex : ∃ g, SesQ w W rb g C ∧ HoldS w W v xs g
  sl : Sls w W v xs
theorem SesX.kept {w W : World} {rb n : Nat} {g : Option (Nat × Obj)} {M : CM} {m : Man} {a : Nat} {hand : List Ent} {N O : List Tb} (h : SesX w W rb n g M m a hand N O) : ∀ b o, g = some (b, o) → W.heap[b]? = some o := fun b o e => by
  obtain ⟨S, cb, sb, x, h1, h2, h3, h4, h5, h6, h7⟩ := h.ex
  exact (h7 b o e).1
theorem SesO.of {w W W' : World} {rb : Nat} {v : Value} {xs : List ByteArray} {C' : SS → Prop} {g : Option (Nat × Obj)} (h2 : HoldS w W v xs g) (h : SesQ w W' rb g C') : SesO w W' rb v xs C' := by
  have hx := h.x
  have hk : ∀ b o, g = some (b, o) → W'.heap[b]? = some o := by
    obtain ⟨z, q1, _⟩ := h.ex
    exact q1.kept
  exact ⟨⟨g, h, ⟨fun b o e => ⟨hk b o e, (h2.at_ b o e).2⟩, h2.own, h2.back⟩⟩, h2.back W' hk hx⟩
theorem SesO.call {w W : World} {rb : Nat} {v : Value} {xs : List ByteArray} {C C' : SS → Prop} (h : SesO w W rb v xs C) {f : Nat} {args : Array Value} {T : ByteArray}
    (hc : ∀ g, SesQ w W rb g C → Calls Tryz.prog f args W fun e w' => e = .returned (.string T) ∧ SesQ w w' rb g C') :
    Calls Tryz.prog f args W fun e w' => e = .returned (.string T) ∧ SesO w w' rb v xs C' := by
  obtain ⟨g, h1, h2⟩ := h.ex
  exact (hc g h1).mono fun _ _ hh => ⟨hh.1, SesO.of h2 hh.2⟩
theorem SesO.ext {w W W' : World} {rb : Nat} {v : Value} {xs : List ByteArray} {C : SS → Prop} (h : SesO w W rb v xs C) (hx : Ext W W') : SesO w W' rb v xs C := by
  obtain ⟨g, h1, h2⟩ := h.ex
  exact SesO.of h2 (h1.ext hx)
theorem SesO.app {w W W' : World} {rb : Nat} {v v' : Value} {xs xs' : List ByteArray} {C : SS → Prop} (h : SesO w W rb v xs C) (hgl : 1 < w.heap.size) (hs : Sls w W' v' xs') (hgr : W.grownBy W' v.ownBlock) (hor : v'.ownBlock = v.ownBlock ∨ v'.ownBlock = some W.heap.size) : SesO w W' rb v' xs' C := by
  obtain ⟨g, h1, h2⟩ := h.ex
  obtain ⟨g', h3⟩ := hs.hold
  obtain ⟨z, q1, q2⟩ := h1.ex
  exact ⟨⟨g', ⟨z, q1.regrow h2 h3 hgl (Nat.le_refl _) (fun b hb => own_ge h.sl.own b hb) hgr hor, q2⟩, h3⟩, hs⟩
theorem SesO.start {w W : World} {rb : Nat} {C : SS → Prop} (h : SesQ w W rb none C) : SesO w W rb (.slice none 0 0) [] C :=
  ⟨⟨none, h, ⟨fun b o e => (by cases e), fun b e => (by cases e), fun w' _ hx => Sls.nil hx⟩⟩, Sls.nil h.x⟩
set_option maxRecDepth 20000 in
set_option maxHeartbeats 4000000 in
theorem run_by (ao : Option Addr) (cap : Nat) (ls : List ByteArray) (w : World) (hl : ls.length ≤ 80) (hS : StrsAt w ao ls) (hg : GlobT w) (C : Nat → SS → Prop) (A : Nat → ByteArray)
    (h0 : C 0 ⟨4, fM, fm, 0, [], [], []⟩)
    (hs : ∀ (i : Nat) s g rb W, ls[i]? = some s → SesQ w W rb g (C i) → Calls Tryz.prog 12 #[.pointer (some ⟨rb, 0, none⟩), .string s] W fun e w' => e = .returned (.string (A i)) ∧ SesQ w w' rb g (C (i + 1))) :
    Calls Tryz.prog 5 #[.slice ao ls.length cap] w fun e w' => ∃ oo oc, e = .returned (.tuple #[.slice oo ls.length oc, .nilIface]) ∧ StrsAt w' oo ((List.range ls.length).map A) ∧ Ext w w' := by
  have hgl := hg.lt
  have H1 : Hid (Calls Tryz.prog 9 #[] w fun e w' => e = .returned (.pointer (some ⟨w.heap.size, 0, none⟩)) ∧ ChipAt w' w.heap.size newM ∧ Ext w w' ∧ w'.heap.size = w.heap.size + 1) := new_any w
  have H2 : Hid (∀ W, ChipAt W w.heap.size newM → Calls Tryz.prog 10 #[.pointer (some ⟨w.heap.size, 0, none⟩)] W fun e w' => e = .returned .nilIface ∧ ChipAt w' w.heap.size fM ∧ Kp W w' [w.heap.size]) := fun W hc => format_new _ W hc
  have H3 : Hid (∀ W rb, ChipAt W w.heap.size fM → Blk W rb #[.pointer (some ⟨w.heap.size, 0, none⟩), .pointer none] 45 → ¬ rb = w.heap.size → w.heap.size ≤ rb → Ext w W → Calls Tryz.prog 11 #[.pointer (some ⟨rb, 0, none⟩)] W fun e w' => e = .returned .nilIface ∧ SesO w w' rb (.slice none 0 0) [] (C 0)) := fun W rb hc hB hne hr hx =>
    (sess_open (w := w) (g := none) hc (hg.ext hx) f_inv hB hne (by omega) (by omega) (Nat.le_refl _) hr hx (fun b o e => by cases e)).mono fun _ _ hh => ⟨hh.1, SesO.start ⟨⟨4, fM, fm, 0, [], [], []⟩, hh.2, h0⟩⟩
  have HS : Hid (∀ (i : Nat) s rb W v xs, ls[i]? = some s → SesO w W rb v xs (C i) → Calls Tryz.prog 12 #[.pointer (some ⟨rb, 0, none⟩), .string s] W fun e w' => e = .returned (.string (A i)) ∧ SesO w w' rb v xs (C (i + 1))) := fun i s rb W v xs hi h => h.call fun g hq => hs i s g rb W hi hq
  have HLS : Hid (StrsAt w ao ls) := hS
  have hl80 : ¬ (80 : Int) < (ls.length : Int) := by omega
  clear hg h0 hs hS
  generalize newM = MA at *
  generalize hB : fM = MB at *
  clear hB
  go_enter Tryz.func5, Tryz.ntmps5
  go_wp2_with (first
    | (go_at_call 9; refine H1.out.mono ?_; rintro e w1 ⟨rfl, hc1, hx1, hz1⟩; have hlt1 : w.heap.size < w1.heap.size := (by omega); clear hz1)
    | (go_at_call 10; refine (H2.out _ (hc1.ext ((Ext.refl _).alloc _))).mono ?_; rintro e w2 ⟨rfl, hc2, hk2⟩; have hB2 := hk2.Blk (Blk.new w1 #[.pointer (some ⟨w.heap.size, 0, none⟩), .pointer none] 45) (by simp; omega); have hx2 : Ext w w2 := Kp.ext (hx1.alloc _) hk2 (by simp))
    | (go_at_call 11; refine (H3.out _ _ hc2 hB2 (by omega) (by omega) hx2).mono ?_; rintro e w3 ⟨rfl, hO3⟩))
  have HO3 : Hid (SesO w w3 w1.heap.size (.slice none 0 0) [] (C 0)) := hO3
  clear hO3 hc1 hc2 hk2 hB2 hx1 hx2 H1 H2 H3 hlt1
  generalize w1.heap.size = rb at *
  go_loopw [7, 32] (fun v i wx => ∃ (k : Nat), k ≤ ls.length ∧ i = .int .i64 k ∧ SesO w wx rb v ((List.range k).map A) (C k)) (fun _ i _ => ls.length - (intOf i).toNat)
  case atStart => exact ⟨0, Nat.zero_le _, rfl, HO3.out⟩
  case round =>
    clear HO3
    obtain ⟨k, hk, rfl, hO⟩ := hrel
    by_cases hlt : k < ls.length
    · obtain ⟨b, off, s, rfl, he, hc⟩ := HLS.out.get hlt
      have g1 := hO.sl.ext.cell hc
      have hkl : (k : Int) < (ls.length : Int) := by omega
      have HAN : Hid (Calls Tryz.prog 12 #[.pointer (some ⟨rb, 0, none⟩), .string s] wr fun e w' => e = .returned (.string (A k)) ∧ SesO w w' rb _ ((List.range k).map A) (C (k + 1))) := HS.out k s rb wr _ _ he hO
      have HST : Hid ((List.range (k + 1)).map A = (List.range k).map A ++ [A k]) := by rw [Hid, List.range_succ]; simp
      have HLN : Hid (((List.range k).map A).length ≤ 100000) := by rw [Hid]; simp; omega
      clear he hc hO HS
      generalize (List.range k).map A = done at *
      generalize A k = T at *
      go_wp2_with (first
        | (go_at_call 12; refine HAN.out.mono ?_; rintro e w4 ⟨rfl, hO4⟩)
        | (at_builtin; refine wpList_app_strA rfl _ _ rfl w _ done rfl ?c1 _ T rfl ?c2 ?c3 ?_))
      case c1 => exact hO4.sl.alloc _
      case c2 => exact Blk.new' _ _ _ (by first | rfl | simp)
      case c3 => exact HLN.out
      intro v5 w5 hs5 hg5 hr5
      have hO5 := (hO4.ext ((Ext.refl w4).alloc _)).app hgl hs5 hg5 (by simpa using hr5)
      have HO5 : Hid (SesO w w5 rb v5 (done ++ [T]) (C (k + 1))) := hO5
      clear hO4 hO5 hs5 hg5 hr5 HAN
      go_wp2
      go_roundw
      case rel => exact ⟨k + 1, by omega, by go_num, by rw [HST.out]; exact HO5.out⟩
      case measure => simp [intOf]; omega
    · have hkl : k = ls.length := by omega
      subst hkl
      obtain ⟨oo, oc, hv, hE⟩ := hO.sl.at
      subst hv
      have hx := hO.sl.ext
      have hll : ((List.range ls.length).map A).length = ls.length := by simp
      rw [hll]
      clear hO HS HLS
      go_wp2
      go_ret2
      exact ⟨oo, oc, rfl, hE, hx⟩
end Go.Proofs.YtkibgflbidkalaaGreatDoor
