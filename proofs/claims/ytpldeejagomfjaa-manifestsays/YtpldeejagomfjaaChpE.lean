
/- What becomes of a step: the closures. -/
import Derived.Test.YtpldeejagomfjaaChpD
namespace Go.Proofs.Ytpldeejagomfjaa
open Go.RowKit

/-- The chip's cells, whatever waits. -/
def CellsAt (w : World) (cb : Nat) (M : CM) : Prop := ∃ cs fv, Blk w cb cs 138 ∧ Rep cs M fv ∧ FellAt w cb M.pend fv

def layM (M : CM) (b : Nat) (p : Pg) : CM := { M with pg := upd M.pg b (M.pg b ++ [p]) }
def wipeM (M : CM) (b : Nat) (l : List Pg) : CM := { M with pg := upd M.pg b l, wr := upd M.wr b (M.wr b + 1) }

set_option maxRecDepth 10000 in
theorem Rep.lay {cs : Array Value} {M : CM} {fv : Value} (h : Rep cs M fv) {b : Nat} (hb : b < 24) (p : Pg) (hl : (M.pg b).length < 8) (hp : ∀ d, p = .whole d → d.length = 64) :
    Rep ((putAt cs (b * 524 + (M.pg b).length * 65) (pgCells p)).setIfInBounds (b * 524 + 520) (.int .i64 (((M.pg b).length : Int) + 1))) (layM M b p) fv := by
  have hs := h.size
  have hlen : (pgCells p).length = 65 := by
    cases p with
    | whole d => simp [pgCells, hp d rfl]
    | torn => simp [pgCells]
  have := h.block (cs' := (putAt cs (b * 524 + (M.pg b).length * 65) (pgCells p)).setIfInBounds (b * 524 + 520) (.int .i64 (((M.pg b).length : Int) + 1))) hb (by simp [putAt_size])
    (fun i hi => by rw [Array.getElem?_setIfInBounds_ne (by omega), putAt_out _ _ _ _ (by rw [hlen]; omega)]) ((h.blk b hb).lay (by omega) p hl hp)
  simpa only [upd_id, layM] using this

theorem stOf_nil (p : Nat) : stOf [] p = 0 := rfl
set_option maxRecDepth 10000 in
theorem BRep.wipe {cs cs' : Array Value} {b : Nat} {l l' : List Pg} {wr : Nat} {wk bd : Bool} {st : Int} (h : BRep cs b l wr wk bd) (hw : Wiped cs cs' b 8 st) (hs : b * 524 + 524 ≤ cs.size) (hst : ∀ p, p < 8 → stOf l' p = st) (hl : l'.length ≤ 8) (hno : ∀ (p : Nat) (d : List UInt8), ¬ l'[p]? = some (Pg.whole d)) :
    BRep ((cs'.setIfInBounds (b * 524 + 520) (.int .i64 (l'.length : Int))).setIfInBounds (b * 524 + 521) (.int .i64 ((wr : Int) + 1))) b l' (wr + 1) wk bd := by
  have hz := hw.size
  refine ⟨fun p hp => ?_, fun p d _ hd => absurd hd (hno p d), ?_, ?_, ?_, ?_, hl, fun p d hd => absurd hd (hno p d)⟩
  · rw [Array.getElem?_setIfInBounds_ne (by omega), Array.getElem?_setIfInBounds_ne (by omega)]
    have := hw.ins p 0 hp (by omega)
    rw [Nat.add_zero] at this
    rw [this, hst p hp]; rfl
  · rw [Array.getElem?_setIfInBounds_ne (by omega), Array.getElem?_setIfInBounds_self_of_lt (by omega)]
  · rw [Array.getElem?_setIfInBounds_self_of_lt (by simp; omega)]; simp
  · rw [Array.getElem?_setIfInBounds_ne (by omega), Array.getElem?_setIfInBounds_ne (by omega), hw.out _ (by omega)]; exact h.cwk
  · rw [Array.getElem?_setIfInBounds_ne (by omega), Array.getElem?_setIfInBounds_ne (by omega), hw.out _ (by omega)]; exact h.cbd
set_option maxRecDepth 10000 in
theorem Rep.wipe {cs cs' : Array Value} {M : CM} {fv : Value} (h : Rep cs M fv) {b : Nat} (hb : b < 24) {st : Int} {l' : List Pg} (hw : Wiped cs cs' b 8 st) (hst : ∀ p, p < 8 → stOf l' p = st) (hl : l'.length ≤ 8) (hno : ∀ (p : Nat) (d : List UInt8), ¬ l'[p]? = some (Pg.whole d)) :
    Rep ((cs'.setIfInBounds (b * 524 + 520) (.int .i64 (l'.length : Int))).setIfInBounds (b * 524 + 521) (.int .i64 ((M.wr b : Int) + 1))) (wipeM M b l') fv := by
  have hs := h.size
  have hz := hw.size
  have := h.block (cs' := (cs'.setIfInBounds (b * 524 + 520) (.int .i64 (l'.length : Int))).setIfInBounds (b * 524 + 521) (.int .i64 ((M.wr b : Int) + 1))) hb (by simp [hz])
    (fun i hi => by rw [Array.getElem?_setIfInBounds_ne (by omega), Array.getElem?_setIfInBounds_ne (by omega), hw.out _ (by omega)]) ((h.blk b hb).wipe hw (by omega) hst hl hno)
  simpa only [upd_id, wipeM] using this

theorem pgCells_len (p : Pg) (hp : ∀ d, p = .whole d → d.length = 64) : (pgCells p).length = 65 := by
  cases p with
  | whole d => simp [pgCells, hp d rfl]
  | torn => simp [pgCells]
theorem pgCells_one (p : Pg) : ∀ v ∈ pgCells p, v.oneCell' = true := by
  intro v hv
  cases p with
  | whole d =>
    simp only [pgCells, List.mem_cons, List.mem_map] at hv
    rcases hv with rfl | ⟨x, _, rfl⟩ <;> rfl
  | torn => exact pageV_one 2 v hv

theorem lay_any (cb b : Nat) (M : CM) (p : Pg) (w : World) (hb : b < 24) (hl : (M.pg b).length < 8) (hp : ∀ d, p = .whole d → d.length = 64) (h : CellsAt w cb M) :
    Calls Try.prog 87 #[.pointer (some ⟨cb, b * 524, none⟩), .agg (pgCells p).toArray] w fun e w' => e = .returned (.tuple #[]) ∧ CellsAt w' cb (layM M b p) ∧ w.grownBy w' (some cb) := by
  obtain ⟨cs, fv, h1, h2, h3⟩ := h
  refine (lay_cells cb b (M.pg b).length (pgCells p) cs w hb hl (pgCells_len p hp) (pgCells_one p) h1 h2.size (h2.blk b hb).nx).mono ?_
  rintro e w' ⟨rfl, hk, hg⟩
  exact ⟨rfl, ⟨_, fv, hk, h2.lay hb p hl hp, h3.grown hg⟩, hg⟩
theorem wipe_any (cb b : Nat) (M : CM) (l' : List Pg) (st : Nat) (w : World) (hb : b < 24) (hwr : M.wr b ≤ 1000000000) (hst : ∀ p, p < 8 → stOf l' p = st) (hl : l'.length ≤ 8) (hno : ∀ (p : Nat) (d : List UInt8), ¬ l'[p]? = some (Pg.whole d)) (h : CellsAt w cb M) :
    Calls Try.prog 92 #[.pointer (some ⟨cb, b * 524, none⟩), .int .i64 (st : Int), .int .i64 (l'.length : Int)] w fun e w' => e = .returned (.tuple #[]) ∧ CellsAt w' cb (wipeM M b l') ∧ w.grownBy w' (some cb) := by
  obtain ⟨cs, fv, h1, h2, h3⟩ := h
  refine (wipe_cells cb b st l'.length (M.wr b) cs w hb hwr h1 h2.size (h2.blk b hb).cwr).mono ?_
  rintro e w' ⟨rfl, cs', hw, hk, hg⟩
  exact ⟨rfl, ⟨_, fv, hk, h2.wipe hb hw hst hl hno, h3.grown hg⟩, hg⟩
theorem wipe_blank (cb b : Nat) (M : CM) (w : World) (hb : b < 24) (hwr : M.wr b ≤ 1000000000) (h : CellsAt w cb M) :
    Calls Try.prog 92 #[.pointer (some ⟨cb, b * 524, none⟩), .int .i64 0, .int .i64 0] w fun e w' => e = .returned (.tuple #[]) ∧ CellsAt w' cb (wipeM M b []) ∧ w.grownBy w' (some cb) :=
  wipe_any cb b M [] 0 w hb hwr (fun _ _ => rfl) (by simp) (by simp) h
theorem torn8 (p : Nat) (hp : p < 8) : (List.replicate 8 Pg.torn)[p]? = some Pg.torn := by rw [List.getElem?_replicate, if_pos hp]
theorem torn_no (p : Nat) (d : List UInt8) (he : (List.replicate 8 Pg.torn)[p]? = some (Pg.whole d)) : False := by
  rcases Nat.lt_or_ge p 8 with h1 | h1
  · rw [torn8 p h1] at he; cases he
  · rw [List.getElem?_eq_none (by simpa using h1)] at he; cases he
theorem wipe_torn (cb b : Nat) (M : CM) (w : World) (hb : b < 24) (hwr : M.wr b ≤ 1000000000) (h : CellsAt w cb M) :
    Calls Try.prog 92 #[.pointer (some ⟨cb, b * 524, none⟩), .int .i64 2, .int .i64 8] w fun e w' => e = .returned (.tuple #[]) ∧ CellsAt w' cb (wipeM M b (List.replicate 8 Pg.torn)) ∧ w.grownBy w' (some cb) :=
  wipe_any cb b M (List.replicate 8 Pg.torn) 2 w hb hwr (fun p hp => by unfold stOf; rw [torn8 p hp]; rfl) (by simp) (fun p d he => torn_no p d he) h

set_option maxRecDepth 100000 in
set_option maxHeartbeats 1000000 in
theorem write1_any (cb b kb pb : Nat) (M : CM) (d : List UInt8) (w : World) (hb : b < 24) (hl : (M.pg b).length < 8) (hd : d.length = 64) (h : CellsAt w cb M)
    (hk : Blk w kb #[.pointer (some ⟨cb, b * 524, none⟩)] 139) (hp : Blk w pb (pgCells (.whole d)).toArray 132) :
    Calls Try.prog 86 #[.pointer (some ⟨kb, 0, none⟩), .pointer (some ⟨pb, 0, none⟩)] w fun e w' => e = .returned (.tuple #[]) ∧ CellsAt w' cb (layM M b (.whole d)) ∧ w.grownBy w' (some cb) := by
  have c0 := hk.cell 0
  simp only [List.getElem?_toArray, List.getElem?_cons_zero] at c0
  have hr : w.rangeAt pb 0 (pgCells (.whole d)) := by
    intro j v hj
    rw [Nat.zero_add, hp.cell]; simpa using hj
  have HI : Hid ((Try.prog.info? 132).map (·.size) = some (pgCells (.whole d)).length) := by
    unfold Hid; rw [pgCells_len _ (by intro d' e; cases e; exact hd)]; exact Try.size83
  clear hk hp
  go_enter Try.func86, Try.ntmps86
  go_wp2_with (first
    | (refine wpList_load_mid rfl 132 (.tmp 1) rfl pb 0 (by rfl) (pgCells (.whole d)) _ hr Try.underlying132 rfl HI.out ?_)
    | (go_at_call 87; refine (lay_any cb b M (.whole d) _ hb hl (by intro d' e; cases e; exact hd) h).mono ?_; rintro e w' ⟨rfl, hc, hg⟩))
  go_end0
  exact ⟨rfl, hc, hg⟩

set_option maxRecDepth 100000 in
set_option maxHeartbeats 1000000 in
theorem write2_any (cb b kb : Nat) (M : CM) (w : World) (hb : b < 24) (hl : (M.pg b).length < 8) (h : CellsAt w cb M)
    (hk : Blk w kb #[.pointer (some ⟨cb, b * 524, none⟩)] 139) :
    Calls Try.prog 88 #[.pointer (some ⟨kb, 0, none⟩)] w fun e w' => e = .returned (.tuple #[]) ∧ CellsAt w' cb (layM M b .torn) ∧ w.grownBy w' (some cb) := by
  have c0 := hk.cell 0
  simp only [List.getElem?_toArray, List.getElem?_cons_zero] at c0
  have z0 := zero83
  have z1 := Z83_ne
  have z2 := Z83_set 2
  have hlay := lay_any cb b M .torn w hb hl (by intro d e; cases e) h
  have HL : Hid (Calls Try.prog 87 #[.pointer (some ⟨cb, b * 524, none⟩), .agg (pageV 2).toArray] w fun e w' => e = .returned (.tuple #[]) ∧ CellsAt w' cb (layM M b .torn) ∧ w.grownBy w' (some cb)) := hlay
  clear hk hlay
  go_enter Try.func88, Try.ntmps88
  go_wp2_with (go_at_call 87; refine HL.out.mono ?_; rintro e w' ⟨rfl, hc, hg⟩)
  go_end0
  exact ⟨rfl, hc, hg⟩
set_option maxRecDepth 100000 in
set_option maxHeartbeats 1000000 in
theorem erase1_any (cb b kb : Nat) (M : CM) (w : World) (hb : b < 24) (hwr : M.wr b ≤ 1000000000) (h : CellsAt w cb M)
    (hk : Blk w kb #[.pointer (some ⟨cb, b * 524, none⟩)] 139) :
    Calls Try.prog 91 #[.pointer (some ⟨kb, 0, none⟩)] w fun e w' => e = .returned (.tuple #[]) ∧ CellsAt w' cb (wipeM M b []) ∧ w.grownBy w' (some cb) := by
  have c0 := hk.cell 0
  simp only [List.getElem?_toArray, List.getElem?_cons_zero] at c0
  clear hk
  go_enter Try.func91, Try.ntmps91
  go_wp2_with (go_at_call 92; refine (wipe_blank cb b M _ hb hwr h).mono ?_; rintro e w' ⟨rfl, hc, hg⟩)
  go_end0
  exact ⟨rfl, hc, hg⟩
set_option maxRecDepth 100000 in
set_option maxHeartbeats 1000000 in
theorem erase2_any (cb b kb : Nat) (M : CM) (w : World) (hb : b < 24) (hwr : M.wr b ≤ 1000000000) (h : CellsAt w cb M)
    (hk : Blk w kb #[.pointer (some ⟨cb, b * 524, none⟩)] 139) :
    Calls Try.prog 93 #[.pointer (some ⟨kb, 0, none⟩)] w fun e w' => e = .returned (.tuple #[]) ∧ CellsAt w' cb (wipeM M b (List.replicate 8 Pg.torn)) ∧ w.grownBy w' (some cb) := by
  have c0 := hk.cell 0
  simp only [List.getElem?_toArray, List.getElem?_cons_zero] at c0
  clear hk
  go_enter Try.func93, Try.ntmps93
  go_wp2_with (go_at_call 92; refine (wipe_torn cb b M _ hb hwr h).mono ?_; rintro e w' ⟨rfl, hc, hg⟩)
  go_end0
  exact ⟨rfl, hc, hg⟩

end Go.Proofs.Ytpldeejagomfjaa
