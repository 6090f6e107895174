/- StoO. -/
import Derived.Test.YtjeinblcpejpnabGreatDoorStoZJ

/- A store is opened. -/
namespace Go.Proofs.YtjeinblcpejpnabGreatDoor
open Go.RowKit Go.WideShapes

theorem parse_entsN (s : ByteArray) (w : World) (hs : s.size ≤ 281474976710656) :
    Calls Tryz.prog 61 #[.string s] w fun e w' => ∃ ao c, e = .returned (.tuple #[.slice ao (entsT s).1.length c, errV (entsT s).2]) ∧ EntsAt w' ao (entsT s).1 ∧ (∀ a, ao = some a → w.heap.size ≤ a.block) ∧ Ext w w' := by
  refine (parse_any s w hs).mono ?_
  rintro e w' (⟨h1, rfl, hx⟩ | ⟨es, v, h1, rfl, hown, hx⟩)
  · have h2 : entsT s = ([], 4) := by unfold entsT; rw [h1]
    rw [h2]; exact ⟨none, 0, rfl, fun h => absurd rfl h, fun a e => by (cases e), hx⟩
  · have h2 : entsT s = (es, 0) := by unfold entsT; rw [h1]
    obtain ⟨ao, cap, rfl, he⟩ := ents_of_row hown
    rw [h2]; exact ⟨ao, cap, rfl, he, fun a e => own_ge hown a.block (by rw [e]; rfl), hx⟩
set_option maxRecDepth 20000 in
set_option maxHeartbeats 1000000 in
theorem readBatchN_any (cb : Nat) (b p : Int) (M : CM) (w : World) (h : ChipAt w cb M) :
    Calls Tryz.prog 37 #[.pointer (some ⟨cb, 0, none⟩), .int .i64 b, .int .i64 p] w fun e w' => ∃ ao c, e = .returned (.tuple #[.slice ao (pageE M b p).1.length c, errV (pageE M b p).2]) ∧ EntsAt w' ao (pageE M b p).1 ∧ (∀ a, ao = some a → w.heap.size ≤ a.block) ∧ Ext w w' := by
  have HR := read_any cb b p M w h
  have hlen := readR_len h b p
  unfold pageE
  by_cases h0 : (readR M b p).2 = 0
  · have HP : Hid (Calls Tryz.prog 61 #[.string (txtL (readR M b p).1)] w fun e w' => ∃ ao c, e = .returned (.tuple #[.slice ao (entsT (txtL (readR M b p).1)).1.length c, errV (entsT (txtL (readR M b p).1)).2]) ∧ EntsAt w' ao (entsT (txtL (readR M b p).1)).1 ∧ (∀ a, ao = some a → w.heap.size ≤ a.block) ∧ Ext w w') := parse_entsN _ w (by simp [txtL, ByteArray.size]; omega)
    rw [h0] at HR
    have HR' : Hid (Calls Tryz.prog 60 #[.pointer (some ⟨cb, 0, none⟩), .int .i64 b, .int .i64 p] w fun e w' => e = .returned (.tuple #[.string (txtL (readR M b p).1), .nilIface]) ∧ w' = w) := HR
    rw [if_pos h0]
    clear HR h0 h hlen
    generalize txtL (readR M b p).1 = s at *
    generalize entsT s = r at *
    obtain ⟨es, er⟩ := r
    dsimp only at *
    go_enter Tryz.func37, Tryz.ntmps37
    go_wp2_with (first
      | (go_at_call 60; refine HR'.out.mono ?_; rintro e w1 ⟨rfl, rfl⟩)
      | (go_at_call 61; refine HP.out.mono ?_; rintro e w2 ⟨ao, c, rfl, he, hf, hx⟩))
    go_ret2
    exact ⟨ao, c, rfl, he, hf, hx⟩
  · rw [if_neg h0]
    have HR' : Hid (Calls Tryz.prog 60 #[.pointer (some ⟨cb, 0, none⟩), .int .i64 b, .int .i64 p] w fun e w' => e = .returned (.tuple #[.string (txtL (readR M b p).1), .iface 88 (.int .i64 (readR M b p).2)]) ∧ w' = w) := by
      have e : errV (readR M b p).2 = .iface 88 (.int .i64 (readR M b p).2) := by unfold errV; rw [if_neg h0]
      rw [e] at HR; exact HR
    have HE : Hid (errV (readR M b p).2 = .iface 88 (.int .i64 (readR M b p).2)) := by unfold errV Hid; rw [if_neg h0]
    clear HR h0 h hlen
    dsimp only
    rw [HE.out]
    generalize txtL (readR M b p).1 = s at *
    generalize (readR M b p).2 = f at *
    go_enter Tryz.func37, Tryz.ntmps37
    go_wp2_with (go_at_call 60; refine HR'.out.mono ?_; rintro e w1 ⟨rfl, rfl⟩)
    go_ret2
    exact ⟨none, 0, rfl, fun h => absurd rfl h, fun a e => by (cases e), Ext.refl _⟩
/-- Open, behind some pages of the log. -/
structure OpnAt (w wr : World) (sb cb mb : Nat) (M : CM) (m : Man) (a : Nat) (y : SMem) (hd : List Ent) : Prop where
  ex : ∃ S ns, StoAt wr S sb cb M m a (withN y ns) ∧ ns.map Nd.e = hd ∧ Ext w wr ∧ (∀ b ∈ S, b = cb ∨ w.heap.size ≤ b) ∧ mb ∉ S
  mb : Blk wr mb #[.int .i64 m.ep, .int .i64 m.lg, .slice y.a1 m.nw.length y.c1, .slice y.a2 m.od.length y.c2] 65
theorem OpnAt.more {w wr wx : World} {sb cb mb : Nat} {M : CM} {m : Man} {a : Nat} {y : SMem} {hd : List Ent} (h : OpnAt w wr sb cb mb M m a y hd) (hx : Ext wr wx) : OpnAt w wx sb cb mb M m a y hd := by
  obtain ⟨S, ns, h1, h2, h3, h4, h5⟩ := h.ex
  exact ⟨⟨S, ns, h1.ext hx, h2, h3.trans hx, h4, h5⟩, Blk.ext hx h.mb⟩
theorem OpnAt.put {w wp wr : World} {sb cb mb : Nat} {M : CM} {m : Man} {a : Nat} {y : SMem} {hd : List Ent} (h : OpnAt w wp sb cb mb M m a y hd) (hp : M.pend = none) (hl : hd.length ≤ 100) {es : List Ent} (h4 : es.length ≤ 100) (ao : Option Addr) (cap : Nat) (hx : Ext wp wr) (hes : EntsAt wr ao es) (hf : ∀ p, ao = some p → wp.heap.size ≤ p.block) :
    Calls Tryz.prog 38 #[.pointer (some ⟨y.hb, 0, none⟩), .slice ao es.length cap] wr fun e w' => e = .returned (.tuple #[]) ∧ OpnAt w w' sb cb mb M m a y (putsE hd es) := by
  obtain ⟨S, ns, h1, h2, h3, h5, h6⟩ := h.ex
  have k1 := h1.ext hx
  have hn : ns.length ≤ 100 := by rw [← h2] at hl; simpa using hl
  refine (putAll_any y.hb ns ao cap es wr k1.tow (by omega) k1.glob (fun hh => h1.gS (h1.tS _ hh)) hes (fun p e hh => ?_)).mono ?_
  · have := h1.lt _ (h1.tS _ hh)
    have := hf p e
    omega
  · rintro e w' ⟨rfl, hP⟩
    refine ⟨rfl, ?_⟩
    obtain ⟨ms, q1, q2, q3, q4⟩ := k1.putHand (es := es) hp hP
    obtain ⟨_, _, _, _, hK, _⟩ := hP.ex
    refine ⟨⟨_, ms, q1, by rw [q2, ← h2]; rfl, Kp.ext (h3.trans hx) hK (fun b hb => ?_), fun b hb => ?_, fun hh => ?_⟩, hK.Blk (Blk.ext hx h.mb) (fun hh => h6 (h1.tS _ hh))⟩
    · rcases h5 b (h1.tS b hb) with h' | h'
      · exact absurd h' (h1.ts b hb).1
      · exact h'
    · have := (h3.trans hx).size
      rcases q4 b hb with h' | h'
      · exact h5 b h'
      · exact .inr (by omega)
    · have := h.mb.lt
      have := hx.size
      rcases q4 _ hh with h' | h'
      · exact h6 h'
      · omega
theorem OpnAt.c1 {w wr : World} {sb cb mb : Nat} {M : CM} {m : Man} {a : Nat} {y : SMem} {hd : List Ent} (h : OpnAt w wr sb cb mb M m a y hd) : wr.cell? ⟨mb, 1, none⟩ = some (.int .i64 m.lg) := h.mb.cell 1
theorem OpnAt.c6 {w wr : World} {sb cb mb : Nat} {M : CM} {m : Man} {a : Nat} {y : SMem} {hd : List Ent} (h : OpnAt w wr sb cb mb M m a y hd) : wr.cell? ⟨sb, 6, none⟩ = some (.pointer (some ⟨y.hb, 0, none⟩)) := by
  obtain ⟨S, ns, h1, _⟩ := h.ex
  exact h1.blk.cell 6
theorem OpnAt.chip {w wr : World} {sb cb mb : Nat} {M : CM} {m : Man} {a : Nat} {y : SMem} {hd : List Ent} (h : OpnAt w wr sb cb mb M m a y hd) : ChipAt wr cb M := by
  obtain ⟨S, ns, h1, _⟩ := h.ex
  exact h1.chip
/-- Where Open begins. -/
theorem opn_new {w w1 wr : World} {cb mb sb hb : Nat} {M : CM} {m : Man} {a : Nat} {a1 a2 : Option Addr} {c1 c2 : Nat} (hc : ChipAt w cb M) (hg : GlobT w) (hgc : ¬ 1 = cb) (hcl : cb < w.heap.size)
    (h1 : NumsF w1 w.heap.size a1 m.nw) (h2 : NumsF w1 w.heap.size a2 m.od) (hx : Ext w w1) (hx1 : Ext w1 wr) (hmb : Blk wr mb #[.int .i64 m.ep, .int .i64 m.lg, .slice a1 m.nw.length c1, .slice a2 m.od.length c2] 65)
    (hsb : Blk wr sb (storeC cb m a ⟨a1, c1, a2, c2, hb, []⟩) 75) (ht : Tow wr hb []) (g1 : w1.heap.size ≤ mb) (g2 : w1.heap.size ≤ sb) (g3 : w1.heap.size ≤ hb) (d1 : ¬ sb = mb) (d2 : ¬ hb = mb) (d3 : ¬ hb = sb) :
    OpnAt w wr sb cb mb M m a ⟨a1, c1, a2, c2, hb, []⟩ [] := by
  have hs := hx.size
  have hs1 := hx1.size
  have hgl := hg.lt
  have hhl := ht.lt hb (by simp)
  refine ⟨⟨[cb, sb, hb] ++ addrB a1 ++ addrB a2, [], ⟨hc.ext (hx.trans hx1), hg.ext (hx.trans hx1), hsb, (NumsF.ext hx1 h1).at, (NumsF.ext hx1 h2).at, ht, by omega, fun b hb' => ?_, fun p e => ?_, fun p e => ?_, by simp, fun b hb' => ?_, fun p e => ?_, fun hh => ?_, fun b hb' => ?_⟩, rfl, hx.trans hx1, fun b hb' => ?_, fun hh => ?_⟩, hmb⟩
  · have : b = hb := by simpa [withN] using hb'
    omega
  · have := h1.1 p e
    refine ⟨by omega, by omega, ?_⟩
    simp [withN]; omega
  · have := h2.1 p e
    refine ⟨by omega, by omega, ?_⟩
    simp [withN]; omega
  · have : b = hb := by simpa [withN] using hb'
    simp [this]
  · rcases e with e | e
    · have e' : a1 = some p := e
      subst e'; simp [addrB]
    · have e' : a2 = some p := e
      subst e'; simp [addrB]
  · simp only [List.mem_append, List.mem_cons, List.not_mem_nil, or_false] at hh
    rcases hh with (hh | hh) | hh
    · omega
    · cases a1 with
      | none => simp [addrB] at hh
      | some p => have := h1.1 p rfl; simp [addrB] at hh; omega
    · cases a2 with
      | none => simp [addrB] at hh
      | some p => have := h2.1 p rfl; simp [addrB] at hh; omega
  · simp only [List.mem_append, List.mem_cons, List.not_mem_nil, or_false] at hb'
    have := hsb.lt
    rcases hb' with (hh | hh) | hh
    · omega
    · cases a1 with
      | none => simp [addrB] at hh
      | some p => have := h1.1 p rfl; simp [addrB] at hh; omega
    · cases a2 with
      | none => simp [addrB] at hh
      | some p => have := h2.1 p rfl; simp [addrB] at hh; omega
  · simp only [List.mem_append, List.mem_cons, List.not_mem_nil, or_false] at hb'
    rcases hb' with (hh | hh) | hh
    · omega
    · cases a1 with
      | none => simp [addrB] at hh
      | some p => have := h1.1 p rfl; simp [addrB] at hh; omega
    · cases a2 with
      | none => simp [addrB] at hh
      | some p => have := h2.1 p rfl; simp [addrB] at hh; omega
  · simp only [List.mem_append, List.mem_cons, List.not_mem_nil, or_false] at hh
    rcases hh with (hh | hh) | hh
    · omega
    · cases a1 with
      | none => simp [addrB] at hh
      | some p => have := h1.1 p rfl; simp [addrB] at hh; omega
    · cases a2 with
      | none => simp [addrB] at hh
      | some p => have := h2.1 p rfl; simp [addrB] at hh; omega
set_option maxRecDepth 20000 in
set_option maxHeartbeats 2000000 in
theorem open_any (n : Nat) (w : World) (cb : Nat) (M : CM) (m : Man) (a : Nat) (hand : List Ent) (N O : List Tb) (hc : ChipAt w cb M) (hg : GlobT w) (hgc : ¬ 1 = cb) (hcl : cb < w.heap.size) (hI : Inv n M m a hand N O) :
    Calls Tryz.prog 11 #[.pointer (some ⟨cb, 0, none⟩)] w fun e w' => OpenE w w' cb M m a hand e := by
  have hp := hI.nst.up
  have hd : downB M = false := by unfold downB; rw [hp]; rfl
  have HF : Hid (Calls Tryz.prog 35 #[.pointer (some ⟨cb, 0, none⟩)] w fun e w' => ∃ a1 c1 a2 c2, e = .returned (.tuple #[.agg #[.int .i64 m.ep, .int .i64 m.lg, .slice a1 m.nw.length c1, .slice a2 m.od.length c2], .int .i64 (a : Int), .nilIface]) ∧ NumsF w' w.heap.size a1 m.nw ∧ NumsF w' w.heap.size a2 m.od ∧ Ext w w') := by
    refine (find_up cb M w hc hd).mono ?_
    rw [find_some hI.nst]
    rintro e w' ⟨hx, (⟨m', a', a1, c1, a2, c2, hh, rfl, n1, n2⟩ | ⟨hh, _⟩)⟩
    · cases hh; exact ⟨a1, c1, a2, c2, rfl, n1, n2, hx⟩
    · cases hh
  obtain ⟨g, hlg, hL⟩ := hI.lg
  obtain ⟨bs, hpg, hb8, hbs, hhand⟩ := hL.ex
  have hg24 : g < 24 := by
    have := (scan_zero (manF_zero hI.ok).2).1 m.lg (by simp)
    omega
  have HPG : Hid (∀ p : Nat, p < 8 → (∀ l, bs[p]? = some (some l) → pageE M (g : Int) (p : Int) = (l, 0)) ∧ ((∀ l, ¬ bs[p]? = some (some l)) → ¬ (pageE M (g : Int) (p : Int)).2 = 0)) := fun p h8 => log_page hd hg24 hpg hbs p h8
  have HH : Hid (∀ k : Nat, ((bs.take k).foldl logHand []).length ≤ 100) := fun k => by
    have := (logHand_ok (bs.take k) [] Ris.nil (by simp) (fun l hl => ⟨(hbs l (List.mem_of_mem_take hl)).1, (hbs l (List.mem_of_mem_take hl)).2.1⟩)).2.2
    simp at this; omega
  have HOP : Hid (∀ w1 wr mb sb hb a1 c1 a2 c2, NumsF w1 w.heap.size a1 m.nw → NumsF w1 w.heap.size a2 m.od → Ext w w1 → Ext w1 wr → Blk wr mb #[.int .i64 m.ep, .int .i64 m.lg, .slice a1 m.nw.length c1, .slice a2 m.od.length c2] 65 → Blk wr sb (storeC cb m a ⟨a1, c1, a2, c2, hb, []⟩) 75 → Tow wr hb [] → w1.heap.size ≤ mb → w1.heap.size ≤ sb → w1.heap.size ≤ hb → ¬ sb = mb → ¬ hb = mb → ¬ hb = sb → OpnAt w wr sb cb mb M m a ⟨a1, c1, a2, c2, hb, []⟩ []) := fun w1 wr mb sb hb a1 c1 a2 c2 => opn_new hc hg hgc hcl
  have HLG : Hid (m.lg = (g : Int)) := hlg
  clear hI hL hpg hc hg hlg
  go_enter Tryz.func11, Tryz.ntmps11
  go_wp2_with (go_at_call 35; refine HF.out.mono ?_; rintro e w1 ⟨a1, c1, a2, c2, rfl, hn1, hn2, hx1⟩)
  have hM : Blk (w1.alloc (Obj.cells #[.int .i64 m.ep, .int .i64 m.lg, .slice a1 m.nw.length c1, .slice a2 m.od.length c2] 65)) w1.heap.size #[.int .i64 m.ep, .int .i64 m.lg, .slice a1 m.nw.length c1, .slice a2 m.od.length c2] 65 := Blk.new _ _ _
  have hxm : Ext w1 (w1.alloc (Obj.cells #[.int .i64 m.ep, .int .i64 m.lg, .slice a1 m.nw.length c1, .slice a2 m.od.length c2] 65)) := (Ext.refl _).alloc _
  generalize w1.alloc (Obj.cells #[.int .i64 m.ep, .int .i64 m.lg, .slice a1 m.nw.length c1, .slice a2 m.od.length c2] 65) = wm at *
  have HM : Hid (Blk wm w1.heap.size #[.int .i64 m.ep, .int .i64 m.lg, .slice a1 m.nw.length c1, .slice a2 m.od.length c2] 65) := hM
  have k0 : _ = some (Value.int .i64 m.ep) := hM.cell 0
  have k1 : _ = some (Value.int .i64 m.lg) := hM.cell 1
  have k2 : _ = some (Value.slice a1 m.nw.length c1) := hM.cell 2
  have k3 : _ = some (Value.slice a2 m.od.length c2) := hM.cell 3
  have hlm := hM.lt
  go_region_held3 (fun w' => w'.cell? ⟨w1.heap.size, 0, none⟩ = some (.int .i64 m.ep) ∧ w'.cell? ⟨w1.heap.size, 1, none⟩ = some (.int .i64 m.lg) ∧ w'.cell? ⟨w1.heap.size, 2, none⟩ = some (.slice a1 m.nw.length c1) ∧ w'.cell? ⟨w1.heap.size, 3, none⟩ = some (.slice a2 m.od.length c2))
    (first | (go_keep; done) | exact ⟨hw2.cell k0, hw2.cell k1, hw2.cell k2, hw2.cell k3⟩)
    (first | (go_at_call 36; refine (tnew_any _).mono ?_; rintro e w2 ⟨rfl, hw0⟩; have hw2 : Ext wm w2 := (by rw [hw0]; repeat (first | exact Ext.refl _ | refine Ext.drew ?_ | refine Ext.drewN ?_ _ | refine Ext.alloc ?_ _))))
  have hXm : Ext wm (((wm.alloc listO).alloc (Obj.cells (storeC cb m a ⟨a1, c1, a2, c2, wm.heap.size, []⟩) 75)).drew) := (((Ext.refl _).alloc _).alloc _).drew
  have hO := HOP.out w1 (((wm.alloc listO).alloc (Obj.cells (storeC cb m a ⟨a1, c1, a2, c2, wm.heap.size, []⟩) 75)).drew) w1.heap.size (wm.heap.size + 1) wm.heap.size a1 c1 a2 c2 hn1 hn2 hx1 (hxm.trans hXm) (Blk.ext hXm HM.out) (Blk.drew (Blk.new' _ _ _ (by simp))) ((tow_new wm).ext (((Ext.refl _).alloc _).drew)) (Nat.le_refl _) (by omega) (by omega) (by omega) (by omega) (by omega)
  rw [show (((wm.alloc listO).alloc (Obj.cells (storeC cb m a ⟨a1, c1, a2, c2, wm.heap.size, []⟩) 75)).drew) = (((wm.alloc listO).alloc (Obj.cells #[.pointer (some ⟨cb, 0, none⟩), .int .i64 m.ep, .int .i64 m.lg, .slice a1 m.nw.length c1, .slice a2 m.od.length c2, .int .i64 (a : Int), .pointer (some ⟨wm.heap.size, 0, none⟩)] 75)).drew) from rfl] at hO
  rename_i hold
  clear hold
  clear HM HOP HF hn1 hn2 hx1 hxm hXm hM k0 k1 k2 k3
  generalize (((wm.alloc listO).alloc (Obj.cells #[.pointer (some ⟨cb, 0, none⟩), .int .i64 m.ep, .int .i64 m.lg, .slice a1 m.nw.length c1, .slice a2 m.od.length c2, .int .i64 (a : Int), .pointer (some ⟨wm.heap.size, 0, none⟩)] 75)).drew) = w4 at *
  generalize wm.heap.size + 1 = sb at *
  generalize wm.heap.size = hb at *
  generalize w1.heap.size = mb at *
  go_wp2
  have HO : Hid (OpnAt w w4 sb cb mb M m a ⟨a1, c1, a2, c2, hb, []⟩ ((bs.take 0).foldl logHand [])) := hO
  clear hO
  go_loopw [8, 9, 10, 26] (fun _ _ _ i wr => ∃ k : Nat, k ≤ 8 ∧ i = .int .i64 (k : Int) ∧ OpnAt w wr sb cb mb M m a ⟨a1, c1, a2, c2, hb, []⟩ ((bs.take k).foldl logHand [])) (fun _ _ _ i _ => 8 - (intOf i).toNat)
  case atStart => exact ⟨0, by omega, rfl, HO.out⟩
  case round =>
    obtain ⟨k, hk, rfl, hO⟩ := hrel
    clear HO
    by_cases hlt : k < 8
    · have h1 := hO.c1
      have h6 := hO.c6
      have hml := hO.mb.lt
      have HRB := readBatchN_any cb m.lg (k : Int) M wr hO.chip
      have hnx : (bs.take (k + 1)).foldl logHand [] = match bs[k]? with
          | some o => logHand ((bs.take k).foldl logHand []) o
          | none => (bs.take k).foldl logHand [] := by
        rw [List.take_add_one, List.foldl_append]
        cases bs[k]? <;> rfl
      by_cases hx : ∃ l, bs[k]? = some (some l)
      · obtain ⟨l, hl⟩ := hx
        rw [HLG.out, (HPG.out k hlt).1 l hl, ← HLG.out] at HRB
        rw [hl] at hnx
        have hl4 := (hbs l (List.mem_of_getElem? hl)).1
        have HRB' : Hid (Calls Tryz.prog 37 #[.pointer (some ⟨cb, 0, none⟩), .int .i64 m.lg, .int .i64 (k : Int)] wr fun e w' => ∃ ao c, e = .returned (.tuple #[.slice ao l.length c, .nilIface]) ∧ EntsAt w' ao l ∧ (∀ a, ao = some a → wr.heap.size ≤ a.block) ∧ Ext wr w') := HRB
        have hh32 := HH.out k
        have HPA : Hid (∀ W ao c, Ext wr W → EntsAt W ao l → (∀ p, ao = some p → wr.heap.size ≤ p.block) → Calls Tryz.prog 38 #[.pointer (some ⟨hb, 0, none⟩), .slice ao l.length c] W fun e w' => e = .returned (.tuple #[]) ∧ OpnAt w w' sb cb mb M m a ⟨a1, c1, a2, c2, hb, []⟩ ((bs.take (k + 1)).foldl logHand [])) := fun W ao c hx he hf => by
          rw [hnx]
          exact hO.put hp hh32 (by omega) ao c hx he hf
        clear HRB hnx hl hO
        go_wp2_with (first
          | (go_at_call 37; refine HRB'.out.mono ?_; rintro e w2 ⟨ao, c, rfl, he2, hf2, hx2⟩; have k6 := hx2.cell h6; have hz2 := hx2.size)
          | (go_at_call 38; refine (HPA.out _ _ _ hx2 he2 hf2).mono ?_; rintro e w3 ⟨rfl, hO3⟩))
        go_roundw
        case rel => exact ⟨k + 1, by omega, by go_num, hO3⟩
        case measure => simp [intOf]; omega
      · have hn : ∀ l, ¬ bs[k]? = some (some l) := fun l hl => hx ⟨l, hl⟩
        have hne := (HPG.out k hlt).2 hn
        rw [← HLG.out] at hne
        have HN : Hid (OpnAt w wr sb cb mb M m a ⟨a1, c1, a2, c2, hb, []⟩ ((bs.take (k + 1)).foldl logHand [])) := by
          rw [Hid, hnx]
          cases hh : bs[k]? with
          | none => exact hO
          | some o =>
            cases o with
            | none => exact hO
            | some l => exact absurd hh (hn l)
        have HRB' : Hid (Calls Tryz.prog 37 #[.pointer (some ⟨cb, 0, none⟩), .int .i64 m.lg, .int .i64 (k : Int)] wr fun e w' => ∃ ao j c f, e = .returned (.tuple #[.slice ao j c, .iface 88 (.int .i64 f)]) ∧ Ext wr w') := by
          refine HRB.mono ?_
          rintro e w' ⟨ao, c, rfl, _, _, hx⟩
          refine ⟨ao, (pageE M m.lg k).1.length, c, (pageE M m.lg k).2, ?_, hx⟩
          unfold errV
          rw [if_neg hne]
        clear HRB hnx hx hn hO hne
        go_wp2_with (go_at_call 37; refine HRB'.out.mono ?_; rintro e w2 ⟨ao, j, c, f, rfl, hx2⟩)
        go_roundw
        case rel => exact ⟨k + 1, by omega, by go_num, HN.out.more hx2⟩
        case measure => simp [intOf]; omega
    · have hk8 : k = 8 := by omega
      subst hk8
      have HE : Hid (OpnAt w wr sb cb mb M m a ⟨a1, c1, a2, c2, hb, []⟩ hand) := by
        rw [List.take_of_length_le hb8] at hO
        rw [Hid, hhand]; exact hO
      clear hO
      go_wp2
      go_ret2
      obtain ⟨S, ns, q1, q2, q3, q4, q5⟩ := HE.out.ex
      exact ⟨sb, S, _, rfl, q1, q2, q3, q4⟩
end Go.Proofs.YtjeinblcpejpnabGreatDoor
