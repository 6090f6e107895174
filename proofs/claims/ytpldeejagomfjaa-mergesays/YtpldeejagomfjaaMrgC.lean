
/- The document's Merged. -/
import Derived.Test.YtpldeejagomfjaaMrgB
import Derived.Test.YtpldeejagomfjaaLstP
namespace Go.Proofs.Ytpldeejagomfjaa
open Go.RowKit

theorem put_ret (ao : Option Addr) (cap : Nat) (es : List Ent) (key val : ByteArray) (gone : Bool) (w : World) (hl : es.length ≤ 1000) (hr : Ris es) (hes : EntsAt w ao es) :
    Calls Try.prog 52 #[.slice ao es.length cap, .agg #[.string key, .string val, .bool gone]] w fun e w' => RetL w w' e (putE es ⟨key, val, gone⟩) := by
  refine (refPut_any ao cap es key val gone w hl hr hes).mono ?_
  rintro e w' ⟨v, rfl, h⟩
  exact h.ret
theorem puts_step (m es : List Ent) (k : Nat) (e : Ent) (he : es[k]? = some e) : putsE m (es.take (k + 1)) = putE (putsE m (es.take k)) e := by
  rw [take_snocE he]; simp [putsE]
theorem alls_drop {ls : List LE} {k : Nat} {l : LE} (h : ls[k]? = some l) : alls (ls.drop k) = putsE (alls (ls.drop (k + 1))) l.es := by
  obtain ⟨hlt, rfl⟩ := List.getElem?_eq_some_iff.1 h
  rw [List.drop_eq_getElem_cons hlt]; rfl

set_option maxRecDepth 20000 in
set_option maxHeartbeats 2000000 in
theorem merged_any (ao : Option Addr) (cap : Nat) (ls : List LE) (w : World) (h20 : ls.length ≤ 20) (hF : Few ls) (hA : ListsAt w ao ls) :
    Calls Try.prog 65 #[.slice ao ls.length cap] w fun e w' => RetL w w' e (alls ls) := by
  go_enter Try.func65, Try.ntmps65
  go_wp2
  go_loopw [3, 4, 5] (fun v i _ wr => ∃ (k : Nat) (mo : Option Addr) (cm : Nat), k ≤ ls.length ∧ i = .int .i64 ((k : Int) - 1) ∧ v = .slice mo (alls (ls.drop k)).length cm ∧ (alls (ls.drop k)).length ≤ cm ∧ EntsAt wr mo (alls (ls.drop k)) ∧ Ext w wr) (fun _ i _ _ => (intOf i + 1).toNat)
  case atStart => exact ⟨ls.length, none, 0, Nat.le_refl _, rfl, by simp [alls, allE], by simp [alls, allE], by simp [alls, allE, EntsAt], Ext.refl _⟩
  case round =>
    obtain ⟨k, mo, cm, hk, rfl, rfl, hcm, hM, hx⟩ := hrel
    cases k with
    | zero =>
      have HE : Hid (alls ls = alls (ls.drop 0)) := by simp [Hid]
      clear hA hF
      generalize alls (ls.drop 0) = m at *
      go_wp2
      go_ret
      exact ⟨mo, cm, by rw [HE.out]; rfl, by rw [HE.out]; exact hcm, by rw [HE.out]; exact hM, hx⟩
    | succ k =>
      obtain ⟨b, off, es, eo, ec, rfl, he, h1, h2, h3⟩ := hA.get (k := k) (by omega)
      have HE : Hid (alls (ls.drop k) = putsE (alls (ls.drop (k + 1))) es) := alls_drop he
      have hle : es.length ≤ 40 := hF.len _ (List.mem_of_getElem? he)
      have hml := alls_len (hF.sub (ms := ls.drop (k + 1)) fun l hl => List.mem_of_mem_drop hl)
      have hmr := alls_ris (ls.drop (k + 1))
      have hml2 : (alls (ls.drop (k + 1))).length ≤ 800 := by simp at hml; omega
      have hk1 : ((k + 1 : Nat) : Int) - 1 = (k : Int) := by omega
      rw [hk1]
      clear hml hk1 he
      generalize alls (ls.drop (k + 1)) = m at *
      obtain ⟨wo, hwo⟩ : ∃ wo : World, wo = wr := ⟨_, rfl⟩
      have hxo : Ext w wo := by rw [hwo]; exact hx
      have hMo : EntsAt wo mo m := by rw [hwo]; exact hM
      rw [← hwo]
      clear hx hM hwo
      have c1 := hxo.cell h1
      go_wp2
      go_loopw [3, 5] (fun v j wi => ∃ (q : Nat) (po : Option Addr) (cp : Nat), q ≤ es.length ∧ j = .int .i64 q ∧ v = .slice po (putsE m (es.take q)).length cp ∧ (putsE m (es.take q)).length ≤ cp ∧ EntsAt wi po (putsE m (es.take q)) ∧ Ext w wi) (fun _ j _ => es.length - (intOf j).toNat)
      case atStart => exact ⟨0, mo, cm, Nat.zero_le _, rfl, rfl, hcm, hMo, hxo⟩
      case round =>
        clear hMo hxo c1
        obtain ⟨q, po, cp, hq, rfl, rfl, hcp, hP, hx⟩ := hrel
        have c1 := hx.cell h1
        have hpl : (putsE m (es.take q)).length ≤ 900 := by have := puts_len m (es.take q); simp at this; omega
        have hpr := hmr.puts (es.take q)
        by_cases hlt : q < es.length
        · obtain ⟨b2, off2, ek, ev, eg, rfl, he, g1, g2, g3⟩ := h3.get hlt
          have HS : Hid (putsE m (es.take (q + 1)) = putE (putsE m (es.take q)) ⟨ek, ev, eg⟩) := puts_step m es q _ he
          have d1 := hx.cell g1
          have d2 := hx.cell g2
          have d3 := hx.cell g3
          clear he g1 g2 g3 hA hF h3
          generalize putsE m (es.take q) = p at *
          go_wp2_with (go_at_call 52; refine (put_ret po cp p ek ev eg _ (by omega) hpr hP).mono ?_; rintro e w2 ⟨ao2, cap2, rfl, hc2, ha2, hx2⟩)
          go_roundw
          case rel => exact ⟨q + 1, ao2, cap2, by omega, by go_num, by rw [HS.out], by rw [HS.out]; exact hc2, by rw [HS.out]; exact ha2, hx.trans hx2⟩
          case measure => simp [intOf]; omega
        · have HE2 : Hid (alls (ls.drop k) = putsE m (es.take q)) := by rw [Hid, HE.out, List.take_of_length_le (by omega)]
          clear hA hF h3
          generalize putsE m (es.take q) = p at *
          go_wp2
          go_roundw
          case rel => exact ⟨k, po, cp, by omega, by go_num, by rw [HE2.out], by rw [HE2.out]; exact hcp, by rw [HE2.out]; exact hP, hx⟩
          case measure => simp [intOf]
end Go.Proofs.Ytpldeejagomfjaa
