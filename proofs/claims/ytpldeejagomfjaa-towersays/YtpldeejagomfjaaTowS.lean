
/- TowerSays. -/
import Derived.Test.YtpldeejagomfjaaTowF
import Derived.Test.YtpldeejagomfjaaLstP
namespace Go.Proofs.Ytpldeejagomfjaa
open Go.RowKit

theorem putNew_any (ao : Option Addr) (cap : Nat) (es : List Ent) (key val : ByteArray) (gone : Bool) (w : World) (hl : es.length ≤ 1000) (hr : Ris es) (hes : EntsAt w ao es) :
    Calls Try.prog 52 #[.slice ao es.length cap, .agg #[.string key, .string val, .bool gone]] w fun e w' => RetN w w' e (putE es ⟨key, val, gone⟩) := by
  refine (refPut_any ao cap es key val gone w hl hr hes).mono ?_
  rintro e w' ⟨v, rfl, h⟩
  exact h.retN
def eK : Ent := ⟨⟨#[107]⟩, ⟨#[120]⟩, false⟩

set_option maxRecDepth 20000 in
set_option maxHeartbeats 2000000 in
theorem towers_any (w : World) : Calls Try.prog 49 #[] w fun e w' => e = .returned (.bool true) ∧ Ext w w' := by
  go_enter Try.func49, Try.ntmps49
  go_wp2_with (first
    | (go_at_call 50; refine (newN_any w).mono ?_; rintro e w1 ⟨rfl, h1⟩)
    | (go_at_call 51; refine (putN_any w w.heap.size [] ⟨#[107]⟩ ⟨#[120]⟩ false 2 w1 h1 (by simp)).mono ?_; rintro e w2 ⟨rfl, ⟨ms, h2, he2, _⟩⟩; have HE : Hid (ms.map Nd.e = [eK]) := he2; clear he2)
    | (go_at_call 53; refine (get_any w.heap.size ms ⟨#[107]⟩ w2 h2.t).mono ?_; rw [HE.out, show gotV (getE [eK] ⟨#[107]⟩) = .tuple #[.agg #[.string ⟨#[107]⟩, .string ⟨#[120]⟩, .bool false], .bool true] from rfl]; rintro e w3 ⟨rfl, hx3⟩)
    | (go_at_call 55; refine (many_any w.heap.size ms _ (h2.t.ext (by repeat (first | exact hx3 | exact Ext.refl _ | refine Ext.alloc ?_ _)))).mono ?_; rw [show ms.length = 1 by have := congrArg List.length HE.out; simpa using this]; rintro e w4 ⟨rfl, rfl⟩))
  go_ret
  exact ⟨rfl, (h2.ext.trans hx3).alloc _⟩

theorem put_snoc (es : List Ent) (k : Nat) (e : Ent) (he : es[k]? = some e) : putsE [] (es.take (k + 1)) = putE (putsE [] (es.take k)) e := by
  rw [take_snocE he]; simp [putsE]
theorem puts_le (es : List Ent) (k : Nat) : (putsE [] (es.take k)).length ≤ es.length := by
  have := puts_len [] (es.take k); simp at this; omega
theorem light_len {es : List Ent} {most : Nat} (h : light es most = true) : es.length ≤ most := by
  unfold light at h; simp at h; exact h.1

set_option maxRecDepth 20000 in
set_option maxHeartbeats 4000000 in
theorem towerSays_any (ao ho : Option Addr) (cap hc : Nat) (es : List Ent) (hs : List Int) (key : ByteArray) (w : World) (hl : es.length ≤ 9223372036854775807) (hlh : hs.length ≤ 9223372036854775807) (hlk : key.size ≤ 9223372036854775807) (hes : EntsAt w ao es) (hhs : IntsAt w ho hs) :
    Calls Try.prog 8 #[.slice ao es.length cap, .slice ho hs.length hc, .string key] w fun e w' => e = .returned (.bool true) ∧ Ext w w' := by
  cases hli : light es 60 with
  | false =>
    have HL : Hid (light es 60 = false) := hli
    clear hli
    go_enter Try.func8, Try.ntmps8
    go_wp2_with (first
      | (go_at_call 49; refine (towers_any w).mono ?_; rintro e w1 ⟨rfl, hx1⟩)
      | (go_at_call 18; refine (light_any ao cap es 60 _ (by omega) hl (hes.ext hx1)).mono ?_; rw [HL.out]; rintro e w2 ⟨rfl, rfl⟩))
    go_ret
    exact ⟨rfl, hx1⟩
  | true =>
    have HL : Hid (light es 60 = true) := hli
    have h60 := light_len hli
    clear hli
    by_cases hh : es.length ≤ hs.length
    · by_cases hk : key.size ≤ 20
      · go_enter Try.func8, Try.ntmps8
        go_wp2_with (first
          | (go_at_call 49; refine (towers_any w).mono ?_; rintro e w1 ⟨rfl, hx1⟩)
          | (go_at_call 18; refine (light_any ao cap es 60 _ (by omega) hl (hes.ext hx1)).mono ?_; rw [HL.out]; rintro e w2 ⟨rfl, hw2⟩; rw [hw2]; clear hw2)
          | (go_at_call 50; refine (newN_any w1).mono ?_; rintro e w3 ⟨rfl, h3⟩))
        have hes1 := hes.ext hx1
        have hhs1 : IntsAt w1 ho hs := fun hne => by
          obtain ⟨b, off, e, hc⟩ := hhs hne
          exact ⟨b, off, e, fun i x hx => hx1.cell (hc i x hx)⟩
        obtain ⟨lb, hlb⟩ : ∃ lb, lb = w1.heap.size := ⟨_, rfl⟩
        rw [← hlb] at h3 ⊢
        clear hes hhs HL hlb
        go_loopw [9, 10, 11, 12, 13, 14] (fun v i _ _ _ _ wr => ∃ (k : Nat) (ns : List Nd) (mo : Option Addr) (mc : Nat), k ≤ es.length ∧ i = .int .i64 k ∧ v = .slice mo (ns.map Nd.e).length mc ∧ TowN w1 wr lb ns ∧ EntsAt wr mo (ns.map Nd.e) ∧ (∀ b o, mo = some ⟨b, o, none⟩ → b ∉ lb :: ns.map Nd.b ∧ b < wr.heap.size) ∧ ns.map Nd.e = putsE [] (es.take k)) (fun _ i _ _ _ _ _ => es.length - (intOf i).toNat)
        case atStart => exact ⟨0, [], none, 0, Nat.zero_le _, rfl, rfl, h3, fun h => absurd rfl h, (fun b o h => by cases h), rfl⟩
        case round =>
          clear h3
          obtain ⟨k, ns, mo, mc, hkk, rfl, rfl, hT, hm, hoff, heq⟩ := hrel
          by_cases hlt : k < es.length
          · obtain ⟨b, off, ek, ev, eg, rfl, he, h1, h2, h3⟩ := hes1.get hlt
            obtain ⟨b', off', hv, rfl, hx, g1⟩ := hhs1.get (show k < hs.length by omega)
            have hnl : (ns.map Nd.e).length ≤ 60 := by rw [heq]; have := puts_le es k; omega
            have hnl2 : ns.length ≤ 60 := by simpa using hnl
            have HS : Hid (putsE [] (es.take (k + 1)) = putE (ns.map Nd.e) ⟨ek, ev, eg⟩) := by rw [Hid, heq]; exact put_snoc es k _ he
            have c1 := hT.ext.cell h1
            have c2 := hT.ext.cell h2
            have c3 := hT.ext.cell h3
            have d1 := hT.ext.cell g1
            have H1 : Hid (w1.cell? ⟨b, off + k * 3, none⟩ = some (.string ek) ∧ w1.cell? ⟨b, off + k * 3 + 1, none⟩ = some (.string ev) ∧ w1.cell? ⟨b, off + k * 3 + 2, none⟩ = some (.bool eg) ∧ w1.cell? ⟨b', off' + k, none⟩ = some (.int .i64 hv)) := ⟨h1, h2, h3, g1⟩
            have kh1 : (k : Int) < (es.length : Int) := by omega
            have kh2 : (k : Int) < (hs.length : Int) := by omega
            have CPd : Hid (∀ q, Calls Try.prog 51 #[.pointer (some ⟨lb, 0, none⟩), .agg #[.string ek, .string ev, .bool eg], .int .i64 hv] (wr.drewN q) fun e w' => e = .returned (.tuple #[]) ∧ TowP w1 (wr.drewN q) w' lb ns ⟨ek, ev, eg⟩) := fun q => putN_any w1 lb ns ek ev eg hv _ (hT.more ((Ext.refl wr).drewN q)) (by omega)
            have Hm : Hid (EntsAt wr mo (ns.map Nd.e)) := hm
            have Ho : Hid (∀ b o, mo = some ⟨b, o, none⟩ → b ∉ lb :: ns.map Nd.b ∧ b < wr.heap.size) := hoff
            have Hr : Hid (Ris (ns.map Nd.e)) := hT.t.g.ris
            clear h1 h2 h3 g1 he hx heq hes1 hhs1 hm hoff hT
            go_wp2_with fail
            go_region_held3 (fun w' => w'.cell? ⟨b, off + k * 3, none⟩ = some (.string ek) ∧ w'.cell? ⟨b, off + k * 3 + 1, none⟩ = some (.string ev) ∧ w'.cell? ⟨b, off + k * 3 + 2, none⟩ = some (.bool eg) ∧ w'.cell? ⟨b', off' + k, none⟩ = some (.int .i64 hv))
              (first | (go_keep; done) | exact ⟨hT2.ext.cell H1.out.1, hT2.ext.cell H1.out.2.1, hT2.ext.cell H1.out.2.2.1, hT2.ext.cell H1.out.2.2.2⟩)
              (first | (go_at_call 51; refine (CPd.out _).mono ?_; rintro e w2 ⟨rfl, ⟨ms, hT2, hme, hKp⟩⟩))
            have hK2 : Kp wr w2 (lb :: ns.map Nd.b) := (Kp.ofExt ((Ext.refl wr).drewN _) _).trans hKp
            have hm2 := Hm.out.kept hK2 Ho.out
            obtain ⟨ga, gb, gc, gd, hgv⟩ := got_form (getE (ms.map Nd.e) key)
            have hml : ms.length ≤ 100 := by
              have h9 := congrArg List.length hme
              have := putE_len (ns.map Nd.e) ⟨ek, ev, eg⟩
              simp at h9 this; omega
            have CM : Hid (Calls Try.prog 52 #[.slice mo ns.length mc, .agg #[.string ek, .string ev, .bool eg]] w2 fun e w' => RetN w2 w' e (ms.map Nd.e)) := by
              have := putNew_any mo mc (ns.map Nd.e) ek ev eg w2 (by omega) Hr.out hm2
              rw [List.length_map, ← hme] at this; exact this
            have CG : Hid (∀ W, Ext w2 W → Calls Try.prog 53 #[.pointer (some ⟨lb, 0, none⟩), .string key] W fun e w' => e = .returned (.tuple #[.agg #[.string ga, .string gb, .bool gc], .bool gd]) ∧ Ext W w') := fun W hx => by
              have := get_any lb ms key W (hT2.t.ext hx)
              rw [hgv] at this; exact this
            have CR : Hid (∀ W mo mc, EntsAt W mo (ms.map Nd.e) → Calls Try.prog 54 #[.slice mo ms.length mc, .string key] W fun e w' => e = .returned (.tuple #[.agg #[.string ga, .string gb, .bool gc], .bool gd]) ∧ Ext W w') := fun W mo mc hx => by
              have := refGet_any mo mc (ms.map Nd.e) key W (by simp; omega) hx
              rw [hgv, List.length_map] at this; exact this
            have CN : Hid (∀ W, Ext w2 W → Calls Try.prog 55 #[.pointer (some ⟨lb, 0, none⟩)] W fun e w' => e = .returned (.int .i64 (ms.length : Int)) ∧ w' = W) := fun W hx => many_any lb ms W (hT2.t.ext hx)
            have CA : Hid (∀ W, Ext w2 W → Calls Try.prog 56 #[.pointer (some ⟨lb, 0, none⟩)] W fun e w' => RetN W w' e (ms.map Nd.e)) := fun W hx => tallN_any lb ms W (hT2.t.ext hx) (by omega)
            have CS : Hid (∀ W xo yo xc yc, EntsAt W xo (ms.map Nd.e) → EntsAt W yo (ms.map Nd.e) → Calls Try.prog 26 #[.slice xo ms.length xc, .slice yo ms.length yc] W fun e w' => e = .returned (.bool true) ∧ Ext W w') := fun W xo yo xc yc h1 h2 => by
              have := sameEntries_eq xo yo xc yc (ms.map Nd.e) W (by simp; omega) h1 h2
              rw [List.length_map] at this
              refine this.mono ?_
              rintro e w' ⟨rfl, q, rfl⟩
              exact ⟨rfl, (Ext.refl W).drewN q⟩
            have HME : Hid (ms.map Nd.e = putsE [] (es.take (k + 1))) := by rw [Hid, HS.out]; exact hme
            have HT2 : Hid (TowN w1 w2 lb ms) := hT2
            have f1 := hT2.ext.cell H1.out.1
            have f2 := hT2.ext.cell H1.out.2.1
            have f3 := hT2.ext.cell H1.out.2.2.1
            clear hKp hK2 hm2 hme hT2 CPd hgv c1 c2 c3 d1 HS
            go_wp2_with (first
              | (go_at_call 52; refine CM.out.mono ?_; rintro e w4 ⟨m4, c4, rfl, ha4, hx4, hn4⟩; clear f1 f2 f3)
              | (go_at_call 53; refine (CG.out w4 hx4).mono ?_; rintro e w5 ⟨rfl, hx5⟩)
              | (go_at_call 54; refine (CR.out _ m4 c4 (ha4.ext (hx5.alloc _))).mono ?_; rintro e w6 ⟨rfl, hx6⟩; have r1 : w6.cell? ⟨w5.heap.size, 0, none⟩ = some (.string ga) := hx6.cell ((Blk.new w5 _ _).cell 0); have r2 : w6.cell? ⟨w5.heap.size, 1, none⟩ = some (.string gb) := hx6.cell ((Blk.new w5 _ _).cell 1); have r3 : w6.cell? ⟨w5.heap.size, 2, none⟩ = some (.bool gc) := hx6.cell ((Blk.new w5 _ _).cell 2); have r4 : w5.heap.size < w6.heap.size := (by have := hx6.size; simp at this; omega); have r5 : ¬ w5.heap.size = w6.heap.size := Nat.ne_of_lt r4))
            have hx7 : Ext w2 (w6.alloc (.cells #[.string ga, .string gb, .bool gc] 30)) := (((hx4.trans hx5).alloc _).trans hx6).alloc _
            have ha7 : EntsAt (w6.alloc (.cells #[.string ga, .string gb, .bool gc] 30)) m4 (ms.map Nd.e) := ha4.ext (((hx5.alloc _).trans hx6).alloc _)
            have hs7 : w4.heap.size ≤ (w6.alloc (.cells #[.string ga, .string gb, .bool gc] 30)).heap.size := Ext.size (((hx5.alloc _).trans hx6).alloc _)
            clear r1 r2 r3 r4 r5 hx5 hx6 ha4
            generalize w6.alloc (.cells #[.string ga, .string gb, .bool gc] 30) = w7 at *
            go_wp2_with (first
              | (go_at_call 55; refine (CN.out w7 hx7).mono ?_; rintro e w8 ⟨rfl, hw8⟩; rw [hw8]; clear hw8)
              | (go_at_call 56; refine (CA.out w7 hx7).mono ?_; rintro e w9 ⟨m9, c9, rfl, ha9, hx9, _⟩)
              | (go_at_call 26; refine (CS.out w9 m9 m4 c9 c4 ha9 (ha7.ext hx9)).mono ?_; rintro e w10 ⟨rfl, hx10⟩))
            have hxe := (hx7.trans hx9).trans hx10
            go_roundw
            case rel =>
              refine ⟨k + 1, ms, m4, c4, by omega, by go_num, by simp, HT2.out.more hxe, ha7.ext (hx9.trans hx10), fun bb oo e => ?_, HME.out⟩
              obtain ⟨n1, n2⟩ := hn4 bb oo e
              have n3 := (hx9.trans hx10).size
              exact ⟨fun hin => by have := HT2.out.lt bb hin; omega, by omega⟩
            case measure => simp [intOf]; omega
          · have hxw := hx1.trans hT.ext
            clear hes1 hhs1 hm hoff hT heq
            go_wp2
            go_ret
            exact ⟨rfl, hxw⟩
      · go_enter Try.func8, Try.ntmps8
        go_wp2_with (first
          | (go_at_call 49; refine (towers_any w).mono ?_; rintro e w1 ⟨rfl, hx1⟩)
          | (go_at_call 18; refine (light_any ao cap es 60 _ (by omega) hl (hes.ext hx1)).mono ?_; rw [HL.out]; rintro e w2 ⟨rfl, rfl⟩))
        go_ret
        exact ⟨rfl, hx1⟩
    · go_enter Try.func8, Try.ntmps8
      go_wp2_with (first
        | (go_at_call 49; refine (towers_any w).mono ?_; rintro e w1 ⟨rfl, hx1⟩)
        | (go_at_call 18; refine (light_any ao cap es 60 _ (by omega) hl (hes.ext hx1)).mono ?_; rw [HL.out]; rintro e w2 ⟨rfl, rfl⟩))
      go_ret
      exact ⟨rfl, hx1⟩
end Go.Proofs.Ytpldeejagomfjaa
