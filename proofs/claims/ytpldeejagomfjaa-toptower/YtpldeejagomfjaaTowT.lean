
/- TopTower. -/
import Derived.Test.YtpldeejagomfjaaTowS
namespace Go.Proofs.Ytpldeejagomfjaa
open Go.RowKit

theorem Tow.kept {w w' : World} {lb : Nat} {ns : List Nd} {S : List Nat} (h : Tow w lb ns) (hK : Kp w w' S) (hn : ∀ x ∈ lb :: ns.map Nd.b, x ∉ S) : Tow w' lb ns := by
  obtain ⟨L, hC, hM⟩ := h.m
  exact ⟨h.g, L, hC, ⟨hK.Blk hM.head (hn lb (by simp)), fun n hnn => hK.Blk (hM.node n hnn) (hn n.b (List.mem_cons_of_mem _ (List.mem_map.2 ⟨n, hnn, rfl⟩)))⟩⟩
/-- An entry has been put, and what is new is new. -/
structure TowD (W0 w w' : World) (lb : Nat) (ns : List Nd) (e : Ent) : Prop where
  ex : ∃ ms, TowN W0 w' lb ms ∧ ms.map Nd.e = putE (ns.map Nd.e) e ∧ Kp w w' (lb :: ns.map Nd.b) ∧ ∀ x ∈ lb :: ms.map Nd.b, x ∈ lb :: ns.map Nd.b ∨ w.heap.size ≤ x
theorem putD_any (W0 : World) (lb : Nat) (ns : List Nd) (key val : ByteArray) (gone : Bool) (high : Int) (w : World) (h : TowN W0 w lb ns) (hsm : ns.length ≤ 900) :
    Calls Try.prog 51 #[.pointer (some ⟨lb, 0, none⟩), .agg #[.string key, .string val, .bool gone], .int .i64 high] w fun e w' => e = .returned (.tuple #[]) ∧ TowD W0 w w' lb ns ⟨key, val, gone⟩ := by
  obtain ⟨L, hC, hM⟩ := h.t.m
  refine (put_any lb ns L key val gone high w hC h.t.g hM hsm).mono ?_
  rintro e w' ⟨rfl, ⟨ms, M, g2, hC2, hM2, he, hK, hf⟩⟩
  have hfr : ∀ x ∈ lb :: ms.map Nd.b, x ∈ lb :: ns.map Nd.b ∨ w.heap.size ≤ x := fun x hx => by
    rcases List.mem_cons.1 hx with rfl | hx
    · exact .inl (by simp)
    · obtain ⟨n, hn, rfl⟩ := List.mem_map.1 hx
      rcases hf n hn with h1 | h1
      · exact .inl (List.mem_cons_of_mem _ h1)
      · exact .inr h1
  refine ⟨rfl, ms, ⟨⟨g2, M, hC2, hM2⟩, fun x hx => ?_, hK.ext h.ext h.new⟩, he, hK, hfr⟩
  rcases hfr x hx with h1 | h1
  · exact h.new _ h1
  · exact Nat.le_trans h.ext.size h1
/-- Two towers that have no block in common, of the same entries. -/
structure Both (W0 w : World) (l1 l2 : Nat) (n1 n2 : List Nd) (P : List Ent) : Prop where
  a : TowN W0 w l1 n1
  b : TowN W0 w l2 n2
  off : ∀ x ∈ l1 :: n1.map Nd.b, x ∉ l2 :: n2.map Nd.b
  ea : n1.map Nd.e = P
  eb : n2.map Nd.e = P
theorem Both.put1 {W0 w w' : World} {l1 l2 : Nat} {n1 n2 : List Nd} {P : List Ent} {e : Ent} (h : Both W0 w l1 l2 n1 n2 P) (hd : TowD W0 w w' l1 n1 e) : ∃ m1, TowN W0 w' l1 m1 ∧ TowN W0 w' l2 n2 ∧ (∀ x ∈ l1 :: m1.map Nd.b, x ∉ l2 :: n2.map Nd.b) ∧ m1.map Nd.e = putE P e := by
  obtain ⟨m1, hT, he, hK, hf⟩ := hd.ex
  refine ⟨m1, hT, ⟨h.b.t.kept hK (fun x hx hx2 => h.off x hx2 hx), h.b.new, hT.ext⟩, fun x hx hx2 => ?_, by rw [he, h.ea]⟩
  rcases hf x hx with h1 | h1
  · exact h.off x h1 hx2
  · have := h.b.lt x hx2; omega
theorem both_put2 {W0 w w' : World} {l1 l2 : Nat} {m1 n2 : List Nd} {P Q : List Ent} {e : Ent} (ha : TowN W0 w l1 m1) (hoff : ∀ x ∈ l1 :: m1.map Nd.b, x ∉ l2 :: n2.map Nd.b) (hea : m1.map Nd.e = Q) (heb : n2.map Nd.e = P) (hQ : Q = putE P e) (hd : TowD W0 w w' l2 n2 e) :
    ∃ m2, Both W0 w' l1 l2 m1 m2 Q := by
  obtain ⟨m2, hT, he, hK, hf⟩ := hd.ex
  refine ⟨m2, ⟨ha.t.kept hK hoff, ha.new, hT.ext⟩, hT, fun x hx hx2 => ?_, hea, by rw [he, heb, hQ]⟩
  rcases hf x hx2 with h1 | h1
  · exact hoff x hx h1
  · have := ha.lt x hx; omega
theorem Both.more {W0 w w' : World} {l1 l2 : Nat} {n1 n2 : List Nd} {P : List Ent} (h : Both W0 w l1 l2 n1 n2 P) (hx : Ext w w') : Both W0 w' l1 l2 n1 n2 P := ⟨h.a.more hx, h.b.more hx, h.off, h.ea, h.eb⟩
def tA : Ent := ⟨⟨#[97]⟩, ⟨#[]⟩, false⟩
def tB : Ent := ⟨⟨#[98]⟩, ⟨#[]⟩, false⟩
theorem put_ba : putE (putE [] tB) tA = [tA, tB] := by
  show putE [tB] tA = _
  rw [putE, if_neg (by unfold Lt; rw [Lib.toList_data, Lib.toList_data]; decide), if_neg (by simp [tA, tB])]
theorem all_ab (lb : Nat) (ks : List Nd) (w : World) (h : Tow w lb ks) (hE : ks.map Nd.e = [tA, tB]) : Calls Try.prog 56 #[.pointer (some ⟨lb, 0, none⟩)] w fun e w' => ∃ b off c, e = .returned (.slice (some ⟨b, off, none⟩) 2 c) ∧ w'.cell? ⟨b, off, none⟩ = some (.string ⟨#[97]⟩) ∧ Ext w w' := by
  refine (tallN_any lb ks w h (by have := congrArg List.length hE; simp at this; omega)).mono ?_
  rw [hE]
  rintro e w' ⟨o, c, rfl, ha, hx, _⟩
  obtain ⟨b, off, rfl, hc⟩ := ha (by simp)
  exact ⟨b, off, c, rfl, (hc 0 tA rfl).1, hx⟩
theorem ris_next {es : List Ent} (hr : Ris es) {k : Nat} {a b : Ent} (ha : es[k]? = some a) (hb : es[k + 1]? = some b) : Lt a.key b.key := by
  have h1 : Ris (es.drop k) := List.Pairwise.sublist (List.drop_sublist k es) hr
  have h2 : (es.drop k)[0]? = some a := by simpa using ha
  have h3 : (es.drop k)[1]? = some b := by simpa using hb
  cases hd : es.drop k with
  | nil => rw [hd] at h2; simp at h2
  | cons x r =>
    rw [hd] at h1 h2 h3
    simp at h2 h3
    subst h2
    exact h1.head b (List.mem_of_getElem? h3)

set_option maxRecDepth 20000 in
set_option maxHeartbeats 8000000 in
theorem topTower_any (ao ho lo : Option Addr) (cap hc lc : Nat) (es : List Ent) (hs ls : List Int) (key : ByteArray) (w : World) (hl : es.length ≤ 9223372036854775807) (hlh : hs.length ≤ 9223372036854775807) (_hll : ls.length ≤ 9223372036854775807) (_hlk : key.size ≤ 9223372036854775807) (hes : EntsAt w ao es) (hhs : IntsAt w ho hs) (hls : IntsAt w lo ls) :
    Calls Try.prog 12 #[.slice ao es.length cap, .slice ho hs.length hc, .slice lo ls.length lc, .string key] w fun e w' => e = .returned (.bool true) ∧ Ext w w' := by
  have t1 : True := trivial
  have hx0 : Ext w w := Ext.refl w
  obtain ⟨L1, hL1⟩ : ∃ L1, L1 = light es 60 := ⟨_, rfl⟩
  have HL : Hid (light es 60 = L1) := hL1.symm
  clear hL1
  go_enter Try.func12, Try.ntmps12
  go_wp2_with (first
    | (go_at_call 50; have _t := t1; refine (newN_any w).mono ?_; rintro e w1 ⟨rfl, h1⟩; clear t1)
    | (go_at_call 51; have _t := h1; refine (putN_any w w.heap.size [] ⟨#[98]⟩ ⟨#[]⟩ false 9 w1 h1 (by simp)).mono ?_; rintro e w2 ⟨rfl, ⟨ms, h2, he2, _⟩⟩; have HE : Hid (ms.map Nd.e = putE [] tB) := he2; clear he2 h1)
    | (go_at_call 51; refine (putN_any w w.heap.size ms ⟨#[97]⟩ ⟨#[]⟩ false (-9) w2 h2 (by have := congrArg List.length HE.out; simp [putE] at this; omega)).mono ?_; rintro e w3 ⟨rfl, ⟨ks, h3, he3, _⟩⟩; have HE3 : Hid (ks.map Nd.e = [tA, tB]) := (by rw [Hid, he3, HE.out]; exact put_ba); clear he3 h2)
    | (go_at_call 55; refine (many_any w.heap.size ks _ h3.t).mono ?_; rw [show ks.length = 2 by have := congrArg List.length HE3.out; simpa using this]; rintro e w4 ⟨rfl, hw4⟩; rw [hw4]; clear hw4)
    | (go_at_call 56; refine (all_ab w.heap.size ks w3 h3.t HE3.out).mono ?_; rintro e w5 ⟨b5, off5, c5, rfl, z5, hx5⟩; have hx6 := h3.ext.trans hx5)
    | (go_at_call 18; refine (light_any ao cap es 60 _ (by omega) hl (hes.ext hx6)).mono ?_; rw [HL.out]; rintro e w7 ⟨rfl, hw7⟩; rw [hw7]; clear hw7))
  all_goals first | (go_ret; exact ⟨rfl, hx6⟩; done) | skip
  have hh : es.length ≤ hs.length := by assumption
  have hh2 : es.length ≤ ls.length := by assumption
  have h60 : es.length ≤ 60 := light_len (by rw [HL.out]; assumption)
  clear HE HE3 h3 hx5 z5
  have t1 : True := trivial
  go_wp2_with (first
    | (go_at_call 50; have _t := t1; refine (newN_any w5).mono ?_; rintro e w6 ⟨rfl, h6⟩; clear t1)
    | (go_at_call 50; refine (newN_any w6).mono ?_; rintro e w7 ⟨rfl, h7⟩))
  have hB0 : Both w5 w7 w5.heap.size w6.heap.size [] [] [] := by
    have h7s : w5.heap.size < w6.heap.size := h6.lt _ (by simp)
    refine ⟨h6.more h7.ext, ⟨h7.t, fun x hx => ?_, h6.ext.trans h7.ext⟩, fun x hx hx2 => ?_, rfl, rfl⟩
    · simp at hx; omega
    · simp at hx hx2; omega
  have hes1 := hes.ext hx6
  have hhs1 : IntsAt w5 ho hs := fun hne => by
    obtain ⟨b, off, e, hc⟩ := hhs hne
    exact ⟨b, off, e, fun i x hx => hx6.cell (hc i x hx)⟩
  have hls1 : IntsAt w5 lo ls := fun hne => by
    obtain ⟨b, off, e, hc⟩ := hls hne
    exact ⟨b, off, e, fun i x hx => hx6.cell (hc i x hx)⟩
  generalize w5.heap.size = l1 at *
  generalize w6.heap.size = l2 at *
  clear hes hhs hls HL h6 h7
  go_loopw [12, 13, 14] (fun i _ _ wr => ∃ (k : Nat) (n1 n2 : List Nd), k ≤ es.length ∧ i = .int .i64 k ∧ Both w5 wr l1 l2 n1 n2 (putsE [] (es.take k))) (fun i _ _ _ => es.length - (intOf i).toNat)
  case atStart => exact ⟨0, [], [], Nat.zero_le _, rfl, hB0⟩
  case round =>
    clear hB0
    obtain ⟨k, n1, n2, hkk, rfl, hB⟩ := hrel
    have hpl := puts_le es k
    have hpr : Ris (putsE [] (es.take k)) := Ris.puts Ris.nil _
    have hn1 : n1.length ≤ 60 := by have := congrArg List.length hB.ea; simp at this; omega
    have hn2 : n2.length ≤ 60 := by have := congrArg List.length hB.eb; simp at this; omega
    by_cases hlt : k < es.length
    · obtain ⟨b, off, ek, ev, eg, rfl, he, h1, h2, h3⟩ := hes1.get hlt
      obtain ⟨b', off', hv, rfl, hx, g1⟩ := hhs1.get (show k < hs.length by omega)
      obtain ⟨b'', off'', lv, rfl, hx', g2⟩ := hls1.get (show k < ls.length by omega)
      have hps := put_snoc es k _ he
      have H1 : Hid (w5.cell? ⟨b, off + k * 3, none⟩ = some (.string ek) ∧ w5.cell? ⟨b, off + k * 3 + 1, none⟩ = some (.string ev) ∧ w5.cell? ⟨b, off + k * 3 + 2, none⟩ = some (.bool eg) ∧ w5.cell? ⟨b', off' + k, none⟩ = some (.int .i64 hv) ∧ w5.cell? ⟨b'', off'' + k, none⟩ = some (.int .i64 lv)) := ⟨h1, h2, h3, g1, g2⟩
      have kh1 : (k : Int) < (es.length : Int) := by omega
      have kh2 : (k : Int) < (hs.length : Int) := by omega
      have kh3 : (k : Int) < (ls.length : Int) := by omega
      have c1 := hB.a.ext.cell h1
      have c2 := hB.a.ext.cell h2
      have c3 := hB.a.ext.cell h3
      have c4 := hB.a.ext.cell g1
      have CP1 : Hid (∀ q, Calls Try.prog 51 #[.pointer (some ⟨l1, 0, none⟩), .agg #[.string ek, .string ev, .bool eg], .int .i64 hv] (wr.drewN q) fun e w' => e = .returned (.tuple #[]) ∧ TowD w5 (wr.drewN q) w' l1 n1 ⟨ek, ev, eg⟩) := fun q => putD_any w5 l1 n1 ek ev eg hv _ (hB.a.more ((Ext.refl wr).drewN q)) (by omega)
      have HB : Hid (Both w5 wr l1 l2 n1 n2 (putsE [] (es.take k))) := hB
      have HPS : Hid (putsE [] (es.take (k + 1)) = putE (putsE [] (es.take k)) ⟨ek, ev, eg⟩) := hps
      have HPR : Hid (Ris (putsE [] (es.take k))) := hpr
      clear h1 h2 h3 g1 g2 he hx hx' hB hps hpl hpr hes1 hhs1 hls1
      go_wp2_with fail
      go_region_held3 (fun w' => w'.cell? ⟨b, off + k * 3, none⟩ = some (.string ek) ∧ w'.cell? ⟨b, off + k * 3 + 1, none⟩ = some (.string ev) ∧ w'.cell? ⟨b, off + k * 3 + 2, none⟩ = some (.bool eg) ∧ w'.cell? ⟨b', off' + k, none⟩ = some (.int .i64 hv))
        (first | (go_keep; done) | exact ⟨hxa.cell H1.out.1, hxa.cell H1.out.2.1, hxa.cell H1.out.2.2.1, hxa.cell H1.out.2.2.2.1⟩)
        (first | (go_at_call 51; refine (CP1.out _).mono ?_; rintro e wa ⟨rfl, hd⟩; obtain ⟨m1, hTa, hTb, hoff, hea⟩ := (HB.out.more ((Ext.refl wr).drewN _)).put1 hd; have hxa := hTa.ext))
      clear CP1 hd c1 c2 c3 c4
      have hBb : n2.map Nd.e = putsE [] (es.take k) := HB.out.eb
      have c1 := hxa.cell H1.out.1
      have c2 := hxa.cell H1.out.2.1
      have c3 := hxa.cell H1.out.2.2.1
      have c4 := hxa.cell H1.out.2.2.2.2
      have CP2 : Hid (∀ q, Calls Try.prog 51 #[.pointer (some ⟨l2, 0, none⟩), .agg #[.string ek, .string ev, .bool eg], .int .i64 lv] (wa.drewN q) fun e w' => e = .returned (.tuple #[]) ∧ TowD w5 (wa.drewN q) w' l2 n2 ⟨ek, ev, eg⟩) := fun q => putD_any w5 l2 n2 ek ev eg lv _ (hTb.more ((Ext.refl wa).drewN q)) (by omega)
      have HTa : Hid (TowN w5 wa l1 m1 ∧ (∀ x ∈ l1 :: m1.map Nd.b, x ∉ l2 :: n2.map Nd.b) ∧ m1.map Nd.e = putE (putsE [] (es.take k)) ⟨ek, ev, eg⟩ ∧ n2.map Nd.e = putsE [] (es.take k)) := ⟨hTa, hoff, hea, hBb⟩
      clear hTa hTb hoff hea hBb HB
      go_wp2_with fail
      go_region_held3 (fun w' => w'.cell? ⟨b, off + k * 3, none⟩ = some (.string ek) ∧ w'.cell? ⟨b, off + k * 3 + 1, none⟩ = some (.string ev) ∧ w'.cell? ⟨b, off + k * 3 + 2, none⟩ = some (.bool eg) ∧ w'.cell? ⟨b'', off'' + k, none⟩ = some (.int .i64 lv))
        (first | (go_keep; done) | exact ⟨hxb.cell H1.out.1, hxb.cell H1.out.2.1, hxb.cell H1.out.2.2.1, hxb.cell H1.out.2.2.2.2⟩)
        (first | (go_at_call 51; refine (CP2.out _).mono ?_; rintro e wb ⟨rfl, hd⟩; obtain ⟨m2, hB2⟩ := both_put2 (HTa.out.1.more ((Ext.refl wa).drewN _)) HTa.out.2.1 HTa.out.2.2.1 HTa.out.2.2.2 rfl hd; have hxb := hB2.a.ext))
      clear CP2 hd c1 c2 c3 c4
      have hg : getE (m1.map Nd.e) ek = some ⟨ek, ev, eg⟩ := by rw [hB2.ea, getE_put HPR.out]; simp
      have CG : Hid (Calls Try.prog 53 #[.pointer (some ⟨l1, 0, none⟩), .string ek] wb fun e w' => e = .returned (.tuple #[.agg #[.string ek, .string ev, .bool eg], .bool true]) ∧ Ext wb w') := by
        have := get_any l1 m1 ek wb hB2.a.t
        rw [hg] at this; exact this
      have f1 := hxb.cell H1.out.1
      have HB2 : Hid (Both w5 wb l1 l2 m1 m2 (putsE [] (es.take (k + 1)))) := by rw [Hid, HPS.out]; exact hB2
      clear hg hB2 HPS HPR HTa
      go_wp2_with (go_at_call 53; refine CG.out.mono ?_; rintro e wc ⟨rfl, hxc⟩)
      have hxd := hxb.trans hxc
      have c1 := hxd.cell H1.out.1
      have c2 := hxd.cell H1.out.2.1
      have c3 := hxd.cell H1.out.2.2.1
      have hbl : b < wc.heap.size := by
        rcases Nat.lt_or_ge b wc.heap.size with h' | h'
        · exact h'
        · simp [World.cell?, Array.getElem?_eq_none h'] at c1
      have hbn : ¬ b = wc.heap.size := by omega
      clear f1
      go_wp2_with fail
      go_quiet (fail)
      go_wp2
      go_roundw
      case rel => exact ⟨k + 1, m1, m2, by omega, by go_num, HB2.out.more ((hxc.alloc _).drewN _)⟩
      case measure => simp [intOf]; omega
    · have hxw := hx6.trans hB.a.ext
      obtain ⟨ga, gb, gc, gd, hgv⟩ := got_form (getE (putsE [] (es.take k)) key)
      have hP60 : (putsE [] (es.take k)).length ≤ 60 := by omega
      have e1 : n1.length = (putsE [] (es.take k)).length := by rw [← hB.ea]; simp
      have e2 : n2.length = (putsE [] (es.take k)).length := by rw [← hB.eb]; simp
      have CG1 : Hid (∀ W, Ext wr W → Calls Try.prog 53 #[.pointer (some ⟨l1, 0, none⟩), .string key] W fun e w' => e = .returned (.tuple #[.agg #[.string ga, .string gb, .bool gc], .bool gd]) ∧ Ext W w') := fun W hx => by
        have := get_any l1 n1 key W (hB.a.t.ext hx)
        rw [hB.ea, hgv] at this; exact this
      have CG2 : Hid (∀ W, Ext wr W → Calls Try.prog 53 #[.pointer (some ⟨l2, 0, none⟩), .string key] W fun e w' => e = .returned (.tuple #[.agg #[.string ga, .string gb, .bool gc], .bool gd]) ∧ Ext W w') := fun W hx => by
        have := get_any l2 n2 key W (hB.b.t.ext hx)
        rw [hB.eb, hgv] at this; exact this
      have CA1 : Hid (∀ W, Ext wr W → Calls Try.prog 56 #[.pointer (some ⟨l1, 0, none⟩)] W fun e w' => RetN W w' e (putsE [] (es.take k))) := fun W hx => by
        have := tallN_any l1 n1 W (hB.a.t.ext hx) (by omega)
        rw [hB.ea] at this; exact this
      have CA2 : Hid (∀ W, Ext wr W → Calls Try.prog 56 #[.pointer (some ⟨l2, 0, none⟩)] W fun e w' => RetN W w' e (putsE [] (es.take k))) := fun W hx => by
        have := tallN_any l2 n2 W (hB.b.t.ext hx) (by omega)
        rw [hB.eb] at this; exact this
      have CN1 : Hid (∀ W, Ext wr W → Calls Try.prog 55 #[.pointer (some ⟨l1, 0, none⟩)] W fun e w' => e = .returned (.int .i64 ((putsE [] (es.take k)).length : Int)) ∧ w' = W) := fun W hx => by
        have := many_any l1 n1 W (hB.a.t.ext hx)
        rw [e1] at this; exact this
      have CN2 : Hid (∀ W, Ext wr W → Calls Try.prog 55 #[.pointer (some ⟨l2, 0, none⟩)] W fun e w' => e = .returned (.int .i64 ((putsE [] (es.take k)).length : Int)) ∧ w' = W) := fun W hx => by
        have := many_any l2 n2 W (hB.b.t.ext hx)
        rw [e2] at this; exact this
      have HR : Hid (Ris (putsE [] (es.take k))) := hpr
      clear hB hes1 hhs1 hls1 hgv e1 e2 hpl hpr
      generalize putsE [] (es.take k) = P at *
      have t1 : True := trivial
      go_wp2_with (first
        | (go_at_call_of 53 (Value.pointer (some ⟨l1, 0, none⟩)); have _t := t1; refine (CG1.out wr (Ext.refl wr)).mono ?_; rintro e wa ⟨rfl, hxa⟩; clear t1)
        | (go_at_call_of 53 (Value.pointer (some ⟨l2, 0, none⟩)); refine (CG2.out _ (hxa.alloc _)).mono ?_; rintro e wb ⟨rfl, hxb⟩; have r1 : wb.cell? ⟨wa.heap.size, 0, none⟩ = some (.string ga) := hxb.cell ((Blk.new wa _ _).cell 0); have r2 : wb.cell? ⟨wa.heap.size, 1, none⟩ = some (.string gb) := hxb.cell ((Blk.new wa _ _).cell 1); have r3 : wb.cell? ⟨wa.heap.size, 2, none⟩ = some (.bool gc) := hxb.cell ((Blk.new wa _ _).cell 2); have r4 : wa.heap.size < wb.heap.size := (by have := hxb.size; simp at this; omega); have r5 : ¬ wa.heap.size = wb.heap.size := Nat.ne_of_lt r4)
        | (go_at_call_of 56 (Value.pointer (some ⟨l1, 0, none⟩)); refine (CA1.out _ (((hxa.alloc _).trans hxb).alloc _)).mono ?_; rintro e wc ⟨mc, cc, rfl, hac, hxc, _⟩))
      have hxz : Ext wr wc := (((hxa.alloc _).trans hxb).alloc _).trans hxc
      have s1 : wc.cell? ⟨wa.heap.size, 0, none⟩ = some (.string ga) := ((((Ext.refl wb).alloc _).trans hxc)).cell r1
      have s2 : wc.cell? ⟨wa.heap.size, 1, none⟩ = some (.string gb) := ((((Ext.refl wb).alloc _).trans hxc)).cell r2
      have s3 : wc.cell? ⟨wa.heap.size, 2, none⟩ = some (.bool gc) := ((((Ext.refl wb).alloc _).trans hxc)).cell r3
      have s4 : wc.cell? ⟨wb.heap.size, 0, none⟩ = some (.string ga) := hxc.cell ((Blk.new wb _ _).cell 0)
      have s5 : wc.cell? ⟨wb.heap.size, 1, none⟩ = some (.string gb) := hxc.cell ((Blk.new wb _ _).cell 1)
      have s6 : wc.cell? ⟨wb.heap.size, 2, none⟩ = some (.bool gc) := hxc.cell ((Blk.new wb _ _).cell 2)
      have HSC : Hid (∀ W, Ext wc W → (W.cell? ⟨wa.heap.size, 0, none⟩ = some (.string ga) ∧ W.cell? ⟨wa.heap.size, 1, none⟩ = some (.string gb) ∧ W.cell? ⟨wa.heap.size, 2, none⟩ = some (.bool gc)) ∧ W.cell? ⟨wb.heap.size, 0, none⟩ = some (.string ga) ∧ W.cell? ⟨wb.heap.size, 1, none⟩ = some (.string gb) ∧ W.cell? ⟨wb.heap.size, 2, none⟩ = some (.bool gc)) := fun W hx => ⟨⟨hx.cell s1, hx.cell s2, hx.cell s3⟩, hx.cell s4, hx.cell s5, hx.cell s6⟩
      clear s1 s2 s3 s4 s5 s6 r1 r2 r3 r4 r5 hxa hxb hxc CG1 CG2 CA1
      generalize wa.heap.size = q1 at *
      generalize wb.heap.size = q2 at *
      go_loopw [20] (fun i wx => ∃ j : Nat, j ≤ P.length ∧ i = .int .i64 ((j + 1 : Nat) : Int) ∧ Ext wc wx) (fun i _ => P.length + 1 - (intOf i).toNat)
      case atStart => exact ⟨0, Nat.zero_le _, rfl, Ext.refl _⟩
      case round =>
        obtain ⟨j, hj, rfl, hx⟩ := hrel
        by_cases hjl : j + 1 < P.length
        · obtain ⟨b, off, ek, ev, eg, rfl, he, h1, h2, h3⟩ := hac.get (show j < P.length by omega)
          obtain ⟨b', off', fk, fv, fg, hbb, hf, g1, g2, g3⟩ := hac.get hjl
          obtain ⟨rfl, rfl⟩ : b' = b ∧ off' = off := by simp at hbb; exact ⟨hbb.1.symm, hbb.2.symm⟩
          have hlt2 := ris_next HR.out he hf
          dsimp only at hlt2
          have hle : (Op.bytesLess fk.toList ek.toList || fk.toList == ek.toList) = false := by
            rw [Lt.nless hlt2.asymm, beq_ne hlt2.ne.symm]; rfl
          have c1 := hx.cell h1
          have c2 := hx.cell g1
          have hd : ((j : Int) + 1 - 1) = (j : Int) := by omega
          clear he hf hac hbb h1 h2 h3 g1 g2 g3 hlt2
          go_wp2
          go_quiet (fail)
          go_wp2
          go_roundw
          case rel => exact ⟨j + 1, by omega, by go_num, hx.drewN _⟩
          case measure => simp [intOf]; omega
        · obtain ⟨⟨s1, s2, s3⟩, s4, s5, s6⟩ := HSC.out _ hx
          have hxq := hxz.trans hx
          have hac2 := hac.ext hx
          have t1 : True := trivial
          have hbe : ∀ x : ByteArray, (x.toList == x.toList) = true := fun x => by simp
          clear hac HSC
          go_wp2_with (first
            | (go_at_call_of 55 (Value.pointer (some ⟨l1, 0, none⟩)); refine (CN1.out _ hxq).mono ?_; rintro e wd ⟨rfl, hwd⟩; rw [hwd]; clear hwd)
            | (go_at_call_of 55 (Value.pointer (some ⟨l2, 0, none⟩)); refine (CN2.out _ hxq).mono ?_; rintro e we ⟨rfl, hwe⟩; rw [hwe]; clear hwe)
            | (go_at_call_of 56 (Value.pointer (some ⟨l2, 0, none⟩)); refine (CA2.out _ hxq).mono ?_; rintro e wf ⟨mf, cf, rfl, haf, hxf, _⟩)
            | (go_at_call 26; refine (sameEntries_eq mc mf cc cf P _ (by omega) (hac2.ext hxf) haf).mono ?_; rintro e wg ⟨rfl, qg, hwg⟩; have hxg : Ext wf wg := (by rw [hwg]; exact (Ext.refl wf).drewN qg); clear hwg))
          go_ret
          exact ⟨rfl, ((hxw.trans hxq).trans hxf).trans hxg⟩
end Go.Proofs.Ytpldeejagomfjaa
