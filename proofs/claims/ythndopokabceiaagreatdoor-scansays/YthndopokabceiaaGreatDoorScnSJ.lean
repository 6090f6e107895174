/- ScnS. -/
import Derived.Test.YthndopokabceiaaGreatDoorSayBJ
import Derived.Test.YthndopokabceiaaGreatDoorScnRJ

/- ScanSays. -/
namespace Go.Proofs.YthndopokabceiaaGreatDoor
open Go.RowKit Go.WideShapes

/-- A store with rows R, the document's with rows Q. -/
structure Say2 (w wr : World) (sb cb rb n : Nat) (R Q : List Ent) : Prop where
  ex : ∃ S m, Up n wr S sb cb m 0 R ∧ RefSt wr S rb Q ∧ Ext w wr ∧ (∀ b ∈ S, w.heap.size ≤ b) ∧ w.heap.size ≤ rb
  ok : Ris Q ∧ Q.length ≤ 500
theorem UpE.say2 {w wr w' : World} {S : List Nat} {sb cb rb n : Nat} {R Q : List Ent} (h : UpE n wr w' S sb cb 0 R) (hr : RefSt wr S rb Q) (hx : Ext w wr) (hS : ∀ b ∈ S, w.heap.size ≤ b) (hrb : w.heap.size ≤ rb) (ho : Ris Q ∧ Q.length ≤ 500) : Say2 w w' sb cb rb n R Q := by
  obtain ⟨S', m, q1, q2, q3⟩ := h.ex
  have hz := hx.size
  refine ⟨⟨S', m, q1, hr.kp q2 q3, Kp.ext hx q2 hS, fun b hb => ?_, hrb⟩, ho⟩
  rcases q3 b hb with h' | h'
  · exact hS b h'
  · omega
section
variable {w wr : World} {sb cb rb n : Nat} {R Q : List Ent}
theorem Say2.x (h : Say2 w wr sb cb rb n R Q) : Ext w wr := by
  obtain ⟨S, m, h1, h2, h3, h4⟩ := h.ex
  exact h3
theorem Say2.ext (h : Say2 w wr sb cb rb n R Q) {w' : World} (hx : Ext wr w') : Say2 w w' sb cb rb n R Q := by
  obtain ⟨S, m, h1, h2, h3, h4⟩ := h.ex
  exact ⟨⟨S, m, h1.ext hx, h2.ext hx, h3.trans hx, h4⟩, h.ok⟩
theorem Say2.le (h : Say2 w wr sb cb rb n R Q) {n' : Nat} (hn : n ≤ n') : Say2 w wr sb cb rb n' R Q := by
  obtain ⟨S, m, h1, h2⟩ := h.ex
  exact ⟨⟨S, m, h1.le hn (Nat.le_refl _), h2⟩, h.ok⟩
theorem Say2.up (h : Say2 w wr sb cb rb n R Q) : ∃ S m, Up n wr S sb cb m 0 R := by
  obtain ⟨S, m, h1, _⟩ := h.ex
  exact ⟨S, m, h1⟩
theorem Say2.few (h : Say2 w wr sb cb rb n R Q) : R.length ≤ 40 := by
  obtain ⟨S, m, h1⟩ := h.up
  exact h1.few
theorem Say2.ref (h : Say2 w wr sb cb rb n R Q) : ∃ ro rc, Blk wr rb #[.slice ro Q.length rc] 39 ∧ EntsAt wr ro Q := by
  obtain ⟨S, m, h1, h2, _⟩ := h.ex
  obtain ⟨ro, rc, q1, q2⟩ := h2.ex
  exact ⟨ro, rc, q1, q2.at_⟩
theorem Say2.write (h : Say2 w wr sb cb rb n R Q) (hn : n ≤ 80000) {ao : Option Addr} {cap : Nat} {l : List Ent} (hl : EntsAt w ao l) :
    Calls Tryz.prog 26 #[.pointer (some ⟨sb, 0, none⟩), .slice ao l.length cap] wr fun e w' => e = .returned (errV (writeF R l)) ∧ Say2 w w' sb cb rb (n + 9) (wrR R l) Q := by
  obtain ⟨S, m, h1, h2, h4, h5, h6⟩ := h.ex
  exact (h1.wr hn (Aside3.old hl h4 h5)).mono fun _ _ hh => ⟨hh.1, hh.2.say2 h2 h4 h5 h6 h.ok⟩
theorem Say2.flush (h : Say2 w wr sb cb rb n R Q) (hn : n ≤ 80000) :
    Calls Tryz.prog 28 #[.pointer (some ⟨sb, 0, none⟩)] wr fun e w' => e = .returned .nilIface ∧ Say2 w w' sb cb rb (n + 9) R Q := by
  obtain ⟨S, m, h1, h2, h4, h5, h6⟩ := h.ex
  exact (h1.flush hn).mono fun _ _ hh => ⟨hh.1, hh.2.say2 h2 h4 h5 h6 h.ok⟩
theorem Say2.compact (h : Say2 w wr sb cb rb n R Q) (hn : n ≤ 80000) :
    Calls Tryz.prog 29 #[.pointer (some ⟨sb, 0, none⟩)] wr fun e w' => e = .returned .nilIface ∧ Say2 w w' sb cb rb (n + 9) R Q := by
  obtain ⟨S, m, h1, h2, h4, h5, h6⟩ := h.ex
  exact (h1.compact hn).mono fun _ _ hh => ⟨hh.1, (hh.2.say2 h2 h4 h5 h6 h.ok).le (by omega)⟩
theorem Say2.rwrite (h : Say2 w wr sb cb rb n R Q) {ao : Option Addr} {cap : Nat} {l : List Ent} (hll : l.length ≤ 9223372036854775807) (hl : EntsAt w ao l) :
    Calls Tryz.prog 27 #[.pointer (some ⟨rb, 0, none⟩), .slice ao l.length cap] wr fun e w' => e = .returned (.int .i64 (writeF Q l)) ∧ Say2 w w' sb cb rb n R (wrR Q l) := by
  obtain ⟨S, m, h1, h2, h4, h5, h6⟩ := h.ex
  refine (rWrite_any wr S rb Q ao cap l h2 h1.lt h.ok.1 h.ok.2 hll (hl.ext2 h4)).mono fun _ w' hh => ⟨hh.1, ?_⟩
  have hK := hh.2.2
  refine ⟨⟨S, m, h1.kp hK (fun b hb hm => ?_) (fun hm => ?_), hh.2.1, Kp.ext h4 hK (fun b hb => ?_), h5, h6⟩, wrR_ok h.ok l⟩
  · simp at hm; subst hm; exact h2.no hb
  · simp at hm; exact h2.gl hm
  · simp at hb; subst hb; exact h6
end
/-- Rows behind some of the acts. -/
def rowsA (R : List Ent) (acs : List ActE) (i : Nat) : List Ent := (acs.take i).foldl doR R
theorem rowsA_step {R : List Ent} {acs : List ActE} {i : Nat} {e : ActE} (he : acs[i]? = some e) : rowsA R acs (i + 1) = if isWr e then wrR (rowsA R acs i) e.es else rowsA R acs i := by
  unfold rowsA
  rw [List.take_add_one, he, List.foldl_append]; rfl
theorem pgE_one : pgE (afterE [] [oneE]) ⟨#[]⟩ 5 = [oneE] := by kernel_rfl
theorem after_one : afterE [] [oneE] = [oneE] := by kernel_rfl
set_option maxRecDepth 20000 in
set_option maxHeartbeats 8000000 in
theorem scanSays_any (ao : Option Addr) (cap : Nat) (acs : List ActE) (fk tk : ByteArray) (many : Int) (w : World) (hg : GlobT w) (hl : acs.length ≤ 9223372036854775807) (has : ActsAt w ao acs) :
    Calls Tryz.prog 12 #[.slice ao acs.length cap, .string fk, .string tk, .int .i64 many] w fun e w' => e = .returned (.bool true) ∧ Ext w w' := by
  have HS : Hid (Calls Tryz.prog 23 #[] w fun e w' => ∃ cb sb S, e = .returned (.tuple #[.pointer (some ⟨cb, 0, none⟩), .pointer (some ⟨sb, 0, none⟩), .bool true]) ∧ Up 4 w' S sb cb fm 0 [] ∧ Ext w w' ∧ ∀ b ∈ S, w.heap.size ≤ b) := (stored_any w hg).mono fun _ _ h => h.up
  have HC := wrkC w
  have hgl := hg.lt
  have HL : Hid (∀ W, Ext w W → Calls Tryz.prog 18 #[.slice ao acs.length cap, .int .i64 40] W fun e w' => e = .returned (.bool (lightActs acs 40)) ∧ W = w') := fun W hx => (lightActs_any ao cap acs 40 W (by omega) hl (has.ext hx)).mono fun _ _ h => ⟨h.1, h.2.symm⟩
  have HPG : Hid (∀ W S sb cb m, Up 13 W S sb cb m 0 (afterE [] [oneE]) → Ext w W → (∀ b ∈ S, w.heap.size ≤ b) → Calls Tryz.prog 46 #[.pointer (some ⟨sb, 0, none⟩), .string ⟨#[]⟩, .int .i64 5] W fun e w' => ∃ po pc, e = .returned (.tuple #[.slice po 1 pc, .nilIface]) ∧ Ext w w' ∧ Say2 w (w'.alloc (.cells #[.slice po 1 pc] 39)) sb cb w'.heap.size (13 + 9 * 0) [oneE] [oneE]) := fun W S sb cb m hU hx hS => (page_any 13 W S sb cb m 0 _ ⟨#[]⟩ 5 hU).mono fun _ w' hh => by
    obtain ⟨po, pc, h1, h2, h3, h4⟩ := hh.ex
    rw [pgE_one] at h1 h2
    rw [after_one] at hU
    have hz := hx.size
    have hz3 := h3.size
    refine ⟨po, pc, h1, hx.trans h3, ⟨S, m, (hU.ext h3).ext ((Ext.refl _).alloc _), ?_, (hx.trans h3).alloc _, hS, by omega⟩, hU.plain.1, by decide⟩
    obtain ⟨b, off, rfl, hc⟩ := h2 (by simp)
    have hlt : b < w'.heap.size := by
      have := (hc 0 oneE rfl).1
      rcases Nat.lt_or_ge b w'.heap.size with h' | h'
      · exact h'
      · simp [World.cell?, Array.getElem?_eq_none h'] at this
    have hbn := h4 _ rfl
    refine RefSt.new w' S (fun b hb => Nat.lt_of_lt_of_le (hU.lt b hb) hz3) (by omega) (some ⟨b, off, none⟩) pc [oneE] ⟨h2, fun p e => by cases e; exact hlt, fun p e hm => ?_⟩
    cases e
    have := hU.lt _ hm
    dsimp only at hbn this
    omega
  cases hli : lightActs acs 40 with
  | false =>
    rw [hli] at HL
    clear has hg hli hgl
    generalize afterE [] [oneE] = R1 at *
    go_enter Tryz.func12, Tryz.ntmps12
    go_wp2_with (first
      | (go_at_call 23; refine HS.out.mono ?_; rintro e w1 ⟨cb, sb, S, rfl, hU1, hx1, hS1⟩)
      | (go_at_call 26; refine (HC.wr _ _ _ _ hU1 hS1 hx1).mono ?_; rintro e w2 ⟨rfl, S2, m2, hU2, hx2, hS2⟩)
      | (go_at_call 46; refine (HPG.out _ _ _ _ _ hU2 hx2 hS2).mono ?_; rintro e w3 ⟨po, pc, rfl, hx3, hY3⟩)
      | (go_at_call 18; refine (HL.out _ hx3).mono ?_; rintro e w4 ⟨rfl, rfl⟩))
    go_ret
    exact ⟨rfl, hx3⟩
  | true =>
    have h40 : acs.length ≤ 40 := by unfold lightActs at hli; simp at hli; exact hli.1
    have HWK : Hid (∀ W, Ext w W → Calls Tryz.prog 19 #[.slice ao acs.length cap] W fun e w' => e = .returned (.int .i64 (weakN acs : Int)) ∧ W = w') := fun W hx => (weak_any ao cap acs W (by omega) (has.ext hx)).mono fun _ _ h => ⟨h.1, h.2.symm⟩
    have HLS : Hid (∀ e ∈ acs, e.s.size ≤ 100 ∧ e.es.length ≤ 6) := fun e he => light_s hli he
    rw [hli] at HL
    have HAS : Hid (ActsAt w ao acs) := has
    obtain ⟨RA, hRA⟩ : ∃ RA : Nat → List Ent, ∀ i, rowsA [oneE] acs i = RA i := ⟨_, fun _ => rfl⟩
    have HRS : Hid (∀ i e, acs[i]? = some e → RA (i + 1) = if isWr e then wrR (RA i) e.es else RA i) := fun i e he => by rw [← hRA, ← hRA, rowsA_step he]
    have HR0 : Hid (RA 0 = [oneE]) := by rw [Hid, ← hRA]; rfl
    clear has hg hli hgl hRA hl
    generalize weakN acs = k at *
    by_cases hw6 : (6 : Int) < (k : Int)
    · generalize afterE [] [oneE] = R1 at *
      go_enter Tryz.func12, Tryz.ntmps12
      go_wp2_with (first
        | (go_at_call 23; refine HS.out.mono ?_; rintro e w1 ⟨cb, sb, S, rfl, hU1, hx1, hS1⟩)
        | (go_at_call 26; refine (HC.wr _ _ _ _ hU1 hS1 hx1).mono ?_; rintro e w2 ⟨rfl, S2, m2, hU2, hx2, hS2⟩)
        | (go_at_call 46; refine (HPG.out _ _ _ _ _ hU2 hx2 hS2).mono ?_; rintro e w3 ⟨po, pc, rfl, hx3, hY3⟩)
        | (go_at_call 18; refine (HL.out _ hx3).mono ?_; rintro e w4 ⟨rfl, rfl⟩)
        | (go_at_call 19; refine (HWK.out _ hx3).mono ?_; rintro e w5 ⟨rfl, rfl⟩))
      go_ret
      exact ⟨rfl, hx3⟩
    by_cases hft : (20 : Int) < (fk.size : Int) ∨ (20 : Int) < (tk.size : Int)
    · generalize afterE [] [oneE] = R1 at *
      rcases hft with hft | hft
      all_goals
        go_enter Tryz.func12, Tryz.ntmps12
        go_wp2_with (first
          | (go_at_call 23; refine HS.out.mono ?_; rintro e w1 ⟨cb, sb, S, rfl, hU1, hx1, hS1⟩)
          | (go_at_call 26; refine (HC.wr _ _ _ _ hU1 hS1 hx1).mono ?_; rintro e w2 ⟨rfl, S2, m2, hU2, hx2, hS2⟩)
          | (go_at_call 46; refine (HPG.out _ _ _ _ _ hU2 hx2 hS2).mono ?_; rintro e w3 ⟨po, pc, rfl, hx3, hY3⟩)
          | (go_at_call 18; refine (HL.out _ hx3).mono ?_; rintro e w4 ⟨rfl, rfl⟩)
          | (go_at_call 19; refine (HWK.out _ hx3).mono ?_; rintro e w5 ⟨rfl, rfl⟩))
        all_goals
          go_ret
          exact ⟨rfl, hx3⟩
    · have hf1 : ¬ (20 : Int) < (fk.size : Int) := fun h => hft (.inl h)
      have hf2 : ¬ (20 : Int) < (tk.size : Int) := fun h => hft (.inr h)
      clear hft
      generalize afterE [] [oneE] = R1 at *
      go_enter Tryz.func12, Tryz.ntmps12
      go_wp2_with (first
        | (go_at_call 23; refine HS.out.mono ?_; rintro e w1 ⟨cb, sb, S, rfl, hU1, hx1, hS1⟩)
        | (go_at_call 26; refine (HC.wr _ _ _ _ hU1 hS1 hx1).mono ?_; rintro e w2 ⟨rfl, S2, m2, hU2, hx2, hS2⟩)
        | (go_at_call 46; refine (HPG.out _ _ _ _ _ hU2 hx2 hS2).mono ?_; rintro e w3 ⟨po, pc, rfl, hx3, hY3⟩)
        | (go_at_call 18; refine (HL.out _ hx3).mono ?_; rintro e w4 ⟨rfl, rfl⟩)
        | (go_at_call 19; refine (HWK.out _ hx3).mono ?_; rintro e w5 ⟨rfl, rfl⟩))
      have HY3 : Hid (Say2 w (w3.alloc (.cells #[.slice po 1 pc] 39)) sb cb w3.heap.size (13 + 9 * 0) (RA 0) (RA 0)) := by rw [HR0.out]; exact hY3
      clear hY3 HR0 HS HC HL HPG HWK hU1 hU2 hx1 hx2 hx3 hS1 hS2 hw6 hf1 hf2
      generalize w3.heap.size = rb at *
      go_loopw [15] (fun i wr => ∃ j : Nat, j ≤ acs.length ∧ i = .int .i64 j ∧ Say2 w wr sb cb rb (13 + 9 * j) (RA j) (RA j)) (fun i _ => acs.length - (intOf i).toNat)
      case atStart => exact ⟨0, Nat.zero_le _, rfl, HY3.out⟩
      case round =>
        clear HY3
        obtain ⟨j, hj, rfl, hY⟩ := hrel
        by_cases hlt : j < acs.length
        · obtain ⟨b, off, e, rfl, he, c0, c1, c2, c3, c4, c5⟩ := HAS.out.get hlt
          have hxr := hY.x
          have g0 := hxr.cell c0
          have g4 := hxr.cell c4
          have hls := HLS.out e (List.mem_of_getElem? he)
          have HES : Hid (EntsAt w e.ao e.es ∧ e.es.length ≤ 9223372036854775807) := ⟨c5.ents, by omega⟩
          have HRJ : Hid (RA (j + 1) = if isWr e then wrR (RA j) e.es else RA j) := HRS.out j e he
          have HY0 : Hid (Say2 w wr sb cb rb (13 + 9 * j) (RA j) (RA j)) := hY
          have hjl : (j : Int) < (acs.length : Int) := by omega
          clear c0 c1 c2 c3 c5 hY hxr he HRS HLS HAS hls
          by_cases hkw : (e.kind.toList == [119, 114, 105, 116, 101]) = true
          · have hr : RA (j + 1) = wrR (RA j) e.es := by rw [HRJ.out, if_pos (show isWr e = true from hkw)]
            have HWR : Hid (Calls Tryz.prog 26 #[.pointer (some ⟨sb, 0, none⟩), .slice e.ao e.es.length e.cap] wr fun e' w' => e' = .returned (errV (writeF (RA j) e.es)) ∧ Say2 w w' sb cb rb (13 + 9 * (j + 1)) (RA (j + 1)) (RA j)) := by
              rw [hr]
              exact (HY0.out.write (by omega) HES.out.1).mono fun _ _ hh => ⟨hh.1, hh.2.le (by omega)⟩
            have HRW : Hid (∀ W, Say2 w W sb cb rb (13 + 9 * (j + 1)) (RA (j + 1)) (RA j) → Calls Tryz.prog 27 #[.pointer (some ⟨rb, 0, none⟩), .slice e.ao e.es.length e.cap] W fun e' w' => e' = .returned (.int .i64 (writeF (RA j) e.es)) ∧ Say2 w w' sb cb rb (13 + 9 * (j + 1)) (RA (j + 1)) (RA (j + 1))) := fun W h => by
              have := h.rwrite (cap := e.cap) HES.out.2 HES.out.1
              rw [← hr] at this
              exact this
            clear HRJ HES hr HY0
            generalize writeF (RA j) e.es = f at *
            go_wp2_with (first
              | (go_at_call 26; refine HWR.out.mono ?_; rintro e' w4 ⟨rfl, hY4⟩; have g4' := hY4.x.cell c4)
              | (go_at_call 27; refine (HRW.out _ hY4).mono ?_; rintro e' w5 ⟨rfl, hY5⟩))
            go_roundw
            case rel => exact ⟨j + 1, by omega, by go_num, hY5⟩
            case measure => simp [intOf]; omega
          · have hkw' : (e.kind.toList == [119, 114, 105, 116, 101]) = false := by simpa using hkw
            have hr : RA (j + 1) = RA j := by rw [HRJ.out, if_neg (show ¬ isWr e = true from hkw)]
            clear hkw
            by_cases hkf : (e.kind.toList == [102, 108, 117, 115, 104]) = true
            · have HC : Hid (Calls Tryz.prog 28 #[.pointer (some ⟨sb, 0, none⟩)] wr fun e' w' => e' = .returned .nilIface ∧ Say2 w w' sb cb rb (13 + 9 * (j + 1)) (RA (j + 1)) (RA (j + 1))) := by
                rw [hr]
                exact (HY0.out.flush (by omega)).mono fun _ _ hh => ⟨hh.1, hh.2.le (by omega)⟩
              clear HRJ HES hr HY0
              go_wp2_with (go_at_call 28; refine HC.out.mono ?_; rintro e' w4 ⟨rfl, hY4⟩)
              go_roundw
              case rel => exact ⟨j + 1, by omega, by go_num, hY4⟩
              case measure => simp [intOf]; omega
            · have hkf' : (e.kind.toList == [102, 108, 117, 115, 104]) = false := by simpa using hkf
              clear hkf
              by_cases hkc : (e.kind.toList == [99, 111, 109, 112, 97, 99, 116]) = true
              · have HC : Hid (Calls Tryz.prog 29 #[.pointer (some ⟨sb, 0, none⟩)] wr fun e' w' => e' = .returned .nilIface ∧ Say2 w w' sb cb rb (13 + 9 * (j + 1)) (RA (j + 1)) (RA (j + 1))) := by
                  rw [hr]
                  exact (HY0.out.compact (by omega)).mono fun _ _ hh => ⟨hh.1, hh.2.le (by omega)⟩
                clear HRJ HES hr HY0
                go_wp2_with (go_at_call 29; refine HC.out.mono ?_; rintro e' w4 ⟨rfl, hY4⟩)
                go_roundw
                case rel => exact ⟨j + 1, by omega, by go_num, hY4⟩
                case measure => simp [intOf]; omega
              · have hkc' : (e.kind.toList == [99, 111, 109, 112, 97, 99, 116]) = false := by simpa using hkc
                have HC : Hid (Say2 w wr sb cb rb (13 + 9 * (j + 1)) (RA (j + 1)) (RA (j + 1))) := by
                  rw [Hid, hr]; exact HY0.out.le (by omega)
                clear HRJ HES hr HY0 hkc
                go_wp2_with fail
                go_roundw
                case rel => exact ⟨j + 1, by omega, by go_num, HC.out⟩
                case measure => simp [intOf]; omega
        · have hje : j = acs.length := by omega
          subst hje
          clear HRS HLS HAS
          obtain ⟨R, hR⟩ : ∃ R, R = RA acs.length := ⟨_, rfl⟩
          rw [← hR] at hY
          clear hR
          have hfew := hY.few
          have HY : Hid (Say2 w wr sb cb rb (13 + 9 * acs.length) R R) := hY
          obtain ⟨ro, rc, q1, q2⟩ := hY.ref
          have HPA : Hid (Calls Tryz.prog 46 #[.pointer (some ⟨sb, 0, none⟩), .string fk, .int .i64 many] wr fun e w' => ∃ po pc, e = .returned (.tuple #[.slice po (pgE R fk many).length pc, .nilIface]) ∧ EntsAt w' po (pgE R fk many) ∧ Ext wr w') := by
            obtain ⟨S, m, hU⟩ := hY.up
            refine (page_any _ wr S sb cb m 0 R fk many hU).mono fun _ w' hh => ?_
            obtain ⟨po, pc, h1, h2, h3, _⟩ := hh.ex
            exact ⟨po, pc, h1, h2, h3⟩
          have HBT : Hid (∀ W, Ext wr W → Calls Tryz.prog 47 #[.pointer (some ⟨sb, 0, none⟩), .string fk, .string tk] W fun e w' => ∃ po pc, e = .returned (.tuple #[.slice po (btwE R fk tk).length pc, .nilIface]) ∧ EntsAt w' po (btwE R fk tk) ∧ Ext W w') := fun W hx => by
            obtain ⟨S, m, hU⟩ := (HY.out.ext hx).up
            refine (between_any _ W S sb cb m 0 R fk tk hU).mono fun _ w' hh => ?_
            obtain ⟨po, pc, h1, h2, h3, _⟩ := hh.ex
            exact ⟨po, pc, h1, h2, h3⟩
          have HRB : Hid (∀ W, Ext wr W → W.cell? ⟨rb, 0, none⟩ = some (.slice ro R.length rc)) := fun W hx => (q1.ext hx).cell 0
          have HRP : Hid (∀ W, Ext wr W → Calls Tryz.prog 48 #[.slice ro R.length rc, .string fk, .int .i64 many] W fun e w' => ∃ po pc, e = .returned (.slice po (pgE R fk many).length pc) ∧ EntsAt w' po (pgE R fk many) ∧ Ext W w') := fun W hx => (rpaged_any ro rc R fk many W (by omega) (q2.ext2 hx)).mono fun _ w' hh => by
            obtain ⟨v, rfl, hL⟩ := hh
            obtain ⟨po, pc, rfl, hE⟩ := hL.at
            exact ⟨po, pc, rfl, hE, hL.ext⟩
          have HRT : Hid (∀ W, Ext wr W → Calls Tryz.prog 49 #[.slice ro R.length rc, .string fk, .string tk] W fun e w' => ∃ po pc, e = .returned (.slice po (btwE R fk tk).length pc) ∧ EntsAt w' po (btwE R fk tk) ∧ Ext W w') := fun W hx => (rbetween_any ro rc R fk tk W (by omega) (q2.ext2 hx)).mono fun _ w' hh => by
            obtain ⟨v, rfl, hL⟩ := hh
            obtain ⟨po, pc, rfl, hE⟩ := hL.at
            exact ⟨po, pc, rfl, hE, hL.ext⟩
          have hp1 : (pgE R fk many).length ≤ 40 := by
            unfold pgE
            rw [List.length_take]
            have := List.length_filter_le (fun e : Ent => Op.bytesLess fk.toList e.key.toList) R
            omega
          have hp2 : (btwE R fk tk).length ≤ 40 := by unfold btwE; rw [List.length_reverse]; exact Nat.le_trans (List.length_filter_le _ _) hfew
          have hxw := hY.x
          clear hY HY q1 q2 hfew
          generalize pgE R fk many = P at *
          generalize btwE R fk tk = B at *
          have HSP : Hid (∀ W a ca b cb, EntsAt W a P → EntsAt W b P → Calls Tryz.prog 34 #[.slice a P.length ca, .slice b P.length cb] W fun e w' => e = .returned (.bool true) ∧ Ext W w') := fun W a ca b cb h1 h2 => (sameEntries_eq a b ca cb P W (by omega) h1 h2).mono fun _ _ h => ⟨h.1, by obtain ⟨q, rfl⟩ := h.2; exact (Ext.refl W).drewN q⟩
          have HSB : Hid (∀ W a ca b cb, EntsAt W a B → EntsAt W b B → Calls Tryz.prog 34 #[.slice a B.length ca, .slice b B.length cb] W fun e w' => e = .returned (.bool true) ∧ Ext W w') := fun W a ca b cb h1 h2 => (sameEntries_eq a b ca cb B W (by omega) h1 h2).mono fun _ _ h => ⟨h.1, by obtain ⟨q, rfl⟩ := h.2; exact (Ext.refl W).drewN q⟩
          clear hp1 hp2
          have t1 : True := trivial
          go_wp2_with (first
            | (go_at_call 46; refine HPA.out.mono ?_; rintro e w4 ⟨po, pc, rfl, hE4, hx4⟩)
            | (go_at_call 47; refine (HBT.out _ hx4).mono ?_; rintro e w5 ⟨bo, bc, rfl, hE5, hx5⟩; have hX5 := hx4.trans hx5; have r5 := HRB.out _ hX5)
            | (go_at_call 48; refine (HRP.out _ hX5).mono ?_; rintro e w6 ⟨po2, pc2, rfl, hE6, hx6⟩; have hX6 := hX5.trans hx6)
            | (go_at_call 34; have _t := t1; refine (HSP.out _ _ _ _ _ (hE4.ext (hx5.trans hx6)) hE6).mono ?_; rintro e w7 ⟨rfl, hx7⟩; have hX7 := hX6.trans hx7; have r7 := HRB.out _ hX7; clear t1)
            | (go_at_call 49; refine (HRT.out _ hX7).mono ?_; rintro e w8 ⟨bo2, bc2, rfl, hE8, hx8⟩; have hX8 := hX7.trans hx8)
            | (go_at_call 34; refine (HSB.out _ _ _ _ _ (hE5.ext ((hx6.trans hx7).trans hx8)) hE8).mono ?_; rintro e w9 ⟨rfl, hx9⟩))
          go_ret
          exact ⟨rfl, (hxw.trans hX8).trans hx9⟩
end Go.Proofs.YthndopokabceiaaGreatDoor
