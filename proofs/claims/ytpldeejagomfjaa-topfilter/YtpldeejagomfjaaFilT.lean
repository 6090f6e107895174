
/- TopFilter. -/
import Derived.Test.YtpldeejagomfjaaFilC0
import Derived.Test.YtpldeejagomfjaaApp
namespace Go.Proofs.Ytpldeejagomfjaa
open Go.RowKit

theorem Try.info9 : (Try.prog.info? 9).map (fun i => (i.zero, i.size, i.bytes)) = some (some (.string ⟨#[]⟩), 1, 16) := by kernel_rfl
def strRow (ts : List ByteArray) : List Value := ts.map Value.string
theorem TxtsAt.row {w : World} {ao : Option Addr} {ts : List ByteArray} (h : TxtsAt w ao ts) : strRow ts ≠ [] → ∃ ad, ao = some ad ∧ ∀ j u, (strRow ts)[j]? = some u → w.cell? (ad.add j) = some u := by
  intro hne
  obtain ⟨b, off, rfl, hc⟩ := h (by intro e; subst e; exact hne rfl)
  refine ⟨_, rfl, fun j u hu => ?_⟩
  have : ((⟨b, off, none⟩ : Addr).add j) = ⟨b, off + j, none⟩ := by unfold Addr.add; by_cases h : j = 0 <;> simp [h]
  rw [this]
  unfold strRow at hu
  rw [List.getElem?_map] at hu
  cases ht : ts[j]? with
  | none => rw [ht] at hu; simp at hu
  | some t => rw [ht] at hu; simp at hu; subst hu; exact hc j t ht
theorem txts_of_row {w : World} {base : Nat} {v : Value} {ts : List ByteArray} (h : w.ownsRow base 9 1 v ts.length (strRow ts)) : ∃ ao cap, v = .slice ao ts.length cap ∧ TxtsAt w ao ts := by
  obtain ⟨hlen, hcase⟩ := h
  rcases hcase with ⟨rfl, h0⟩ | ⟨g, cap, cur, rfl, _, hh, _, _, _, htake⟩
  · have : ts = [] := List.eq_nil_of_length_eq_zero h0
    subst this
    exact ⟨none, 0, rfl, fun h => absurd rfl h⟩
  · refine ⟨_, cap, rfl, fun _ => ⟨g, 0, rfl, fun i e he => ?_⟩⟩
    have hj : (strRow ts)[i]? = some (.string e) := by unfold strRow; rw [List.getElem?_map, he]; rfl
    rw [← htake, List.getElem?_take] at hj
    split at hj
    · simp only [World.cell?, hh, Nat.zero_add]; simpa using hj
    · simp at hj
theorem one_strs (ts : List ByteArray) : ∀ u ∈ strRow ts, u.oneCell' = true := by
  intro u hu; unfold strRow at hu; obtain ⟨t, _, rfl⟩ := List.mem_map.1 hu; rfl
theorem of_nil (w : World) : Calls Try.prog 58 #[.slice none 0 0] w fun e w' => e = .returned (.int .u64 0) ∧ ∃ q, w' = w.drewN q :=
  of_any none 0 [] w (by simp) (by simp) (fun h => absurd rfl h)
theorem of_one' (w : World) (q : Nat) : Calls Try.prog 58 #[.slice (some ⟨w.heap.size, 0, none⟩) 1 1] ((w.alloc (.cells #[.string ⟨#[107]⟩] 9)).drewN q) fun e w' => (∃ F : Nat, e = .returned (.int .u64 (F : Int)) ∧ FilK F) ∧ ∃ q', w' = (w.alloc (.cells #[.string ⟨#[107]⟩] 9)).drewN q' := by
  refine (of_any _ 1 [kK] _ (by simp) (by intro t ht; simp at ht; subst ht; exact kK_le) ((txts_new w kK).ext ((Ext.refl _).drewN q))).mono ?_
  rintro e w' ⟨rfl, q2, rfl⟩
  exact ⟨⟨_, rfl, ⟨filterN_lt _, may_k⟩⟩, q + q2, by simp [kK]⟩
theorem may_yes (F : Nat) (t : ByteArray) (hF : F < 18446744073709551616) (ht : t.size ≤ 4611686018427387904) (hm : mayN F t.data.toList = true) (w : World) :
    Calls Try.prog 57 #[.int .u64 (F : Int), .string t] w fun e w' => e = .returned (.bool true) ∧ ∃ q, w' = w.drewN q := by
  refine (may_any F t w hF ht).mono ?_
  rintro e w' ⟨rfl, h⟩
  exact ⟨by rw [hm], h⟩

set_option maxHeartbeats 2000000 in
set_option maxRecDepth 20000 in
theorem topFilter_any (ao bo : Option Addr) (cap cap2 : Nat) (ts ms : List ByteArray) (key : ByteArray) (w : World) (hl : ts.length ≤ 9223372036854775807) (hl2 : ms.length ≤ 9223372036854775807) (hk : key.size ≤ 9223372036854775807) (hts : TxtsAt w ao ts) (hms : TxtsAt w bo ms) :
    Calls Try.prog 13 #[.slice ao ts.length cap, .slice bo ms.length cap2, .string key] w fun e w' => e = .returned (.bool true) ∧ Ext w w' := by
  cases hli : lightT ts with
  | false =>
    have HL : Hid (lightT ts = false) := hli
    clear hli
    go_enter Try.func13, Try.ntmps13
    go_wp2_with (first
      | (go_at_call_of 58 (Value.slice none 0 0); refine (of_nil _).mono ?_; rintro e w' ⟨rfl, q0, rfl⟩)
      | (go_at_call_of 58 (Value.slice (some ⟨w.heap.size, 0, none⟩) 1 1); refine (of_one' w _).mono ?_; rintro e w' ⟨⟨F, rfl, hF⟩, q1, rfl⟩)
      | (go_at_call_of 57 (Value.int .u64 (F : Int)); refine (may_of_k F hF _).mono ?_; rintro e w' ⟨rfl, q3, rfl⟩)
      | (go_at_call_of 59 (Value.slice ao ts.length cap); refine (lightT_any ao cap ts _ hl (hts.ext (by repeat (first | assumption | exact Ext.refl _ | refine Ext.drewN ?_ _ | refine Ext.alloc ?_ _)))).mono ?_; rw [HL.out]; rintro e w' ⟨rfl, rfl⟩))
    go_ret
    exact ⟨rfl, (by repeat (first | assumption | exact Ext.refl _ | refine Ext.drewN ?_ _ | refine Ext.alloc ?_ _))⟩
  | true =>
    have HL : Hid (lightT ts = true) := hli
    cases hli2 : lightT ms with
    | false =>
      have HL2 : Hid (lightT ms = false) := hli2
      clear hli hli2
      go_enter Try.func13, Try.ntmps13
      go_wp2_with (first
      | (go_at_call_of 58 (Value.slice none 0 0); refine (of_nil _).mono ?_; rintro e w' ⟨rfl, q0, rfl⟩)
      | (go_at_call_of 58 (Value.slice (some ⟨w.heap.size, 0, none⟩) 1 1); refine (of_one' w _).mono ?_; rintro e w' ⟨⟨F, rfl, hF⟩, q1, rfl⟩)
      | (go_at_call_of 57 (Value.int .u64 (F : Int)); refine (may_of_k F hF _).mono ?_; rintro e w' ⟨rfl, q3, rfl⟩)
      | (go_at_call_of 59 (Value.slice ao ts.length cap); refine (lightT_any ao cap ts _ hl (hts.ext (by repeat (first | assumption | exact Ext.refl _ | refine Ext.drewN ?_ _ | refine Ext.alloc ?_ _)))).mono ?_; rw [HL.out]; rintro e w' ⟨rfl, rfl⟩)
      | (go_at_call_of 59 (Value.slice bo ms.length cap2); refine (lightT_any bo cap2 ms _ hl2 (hms.ext (by repeat (first | assumption | exact Ext.refl _ | refine Ext.drewN ?_ _ | refine Ext.alloc ?_ _)))).mono ?_; rw [HL2.out]; rintro e w' ⟨rfl, rfl⟩))
      go_ret
      exact ⟨rfl, (by repeat (first | assumption | exact Ext.refl _ | refine Ext.drewN ?_ _ | refine Ext.alloc ?_ _))⟩
    | true =>
      have HL2 : Hid (lightT ms = true) := hli2
      by_cases hks : key.size ≤ 20
      · have n1 : ts.length ≤ 60 := by unfold lightT at hli; simp at hli; exact hli.1
        have n2 : ms.length ≤ 60 := by unfold lightT at hli2; simp at hli2; exact hli2.1
        have HS : Hid (∀ t ∈ ts, t.size ≤ 4611686018427387904) := fun t ht => by have := lightT_mem hli ht; omega
        have HS2 : Hid (∀ t ∈ ts ++ ms, t.size ≤ 4611686018427387904) := fun t ht => by
          rcases List.mem_append.1 ht with ht | ht
          · have := lightT_mem hli ht; omega
          · have := lightT_mem hli2 ht; omega
        have hG := filterN_lt ts
        have hG2 := filterN_lt (ts ++ ms)
        have HM : Hid (∀ t ∈ ts, mayN (filterN ts) t.data.toList = true ∧ mayN (filterN (ts ++ ms)) t.data.toList = true) := fun t ht => ⟨mayN_mem _ _ ht, mayN_mem _ _ (List.mem_append_left _ ht)⟩
        have HK : Hid (mayN (filterN ts) key.data.toList = true → mayN (filterN (ts ++ ms)) key.data.toList = true) := fun h => by rw [filterN_app]; exact mayN_or _ _ _ h
        have CO : Hid (∀ W, TxtsAt W ao ts → Calls Try.prog 58 #[.slice ao ts.length cap] W fun e w' => e = .returned (.int .u64 (filterN ts : Int)) ∧ ∃ q, w' = W.drewN q) := fun W h => of_any ao cap ts W hl HS.out h
        have CO2 : Hid (∀ W co cp, TxtsAt W co (ts ++ ms) → Calls Try.prog 58 #[.slice co (ts ++ ms).length cp] W fun e w' => e = .returned (.int .u64 (filterN (ts ++ ms) : Int)) ∧ ∃ q, w' = W.drewN q) := fun W co cp h => of_any co cp (ts ++ ms) W (by simp; omega) HS2.out h
        clear hli hli2
        generalize filterN ts = G at *
        generalize filterN (ts ++ ms) = G2 at *
        obtain ⟨i0, hi, hz0, hz1, hz2⟩ := info_parts Try.info9
        go_enter Try.func13, Try.ntmps13
        go_wp2_with (first
      | (go_at_call_of 58 (Value.slice none 0 0); refine (of_nil _).mono ?_; rintro e w' ⟨rfl, q0, rfl⟩)
      | (go_at_call_of 58 (Value.slice (some ⟨w.heap.size, 0, none⟩) 1 1); refine (of_one' w _).mono ?_; rintro e w' ⟨⟨F, rfl, hF⟩, q1, rfl⟩)
      | (go_at_call_of 57 (Value.int .u64 (F : Int)); refine (may_of_k F hF _).mono ?_; rintro e w' ⟨rfl, q3, rfl⟩)
      | (go_at_call_of 59 (Value.slice ao ts.length cap); refine (lightT_any ao cap ts _ hl (hts.ext (by repeat (first | assumption | exact Ext.refl _ | refine Ext.drewN ?_ _ | refine Ext.alloc ?_ _)))).mono ?_; rw [HL.out]; rintro e w' ⟨rfl, rfl⟩)
      | (go_at_call_of 59 (Value.slice bo ms.length cap2); refine (lightT_any bo cap2 ms _ hl2 (hms.ext (by repeat (first | assumption | exact Ext.refl _ | refine Ext.drewN ?_ _ | refine Ext.alloc ?_ _)))).mono ?_; rw [HL2.out]; rintro e w' ⟨rfl, rfl⟩)
      | (go_at_call_of 58 (Value.slice ao ts.length cap); refine (CO.out _ (hts.ext (by repeat (first | assumption | exact Ext.refl _ | refine Ext.drewN ?_ _ | refine Ext.alloc ?_ _)))).mono ?_; rintro e w' ⟨rfl, q5, rfl⟩)
      | (at_builtin; refine wpList_append_any rfl _ _ 85 rfl w.heap.size 9 i0 (.string ⟨#[]⟩) 1 16 Try.underlying85 hi hz0 hz1 hz2 rfl (by decide) _ 0 [] rfl (World.ownsRow_nil _ _ _ _) ao ts.length cap (strRow ts) rfl ?c0 ?c1 ?c2 ?c3 ?c4 ?c5 ?_))
        case c0 => simp [strRow]
        case c1 => exact (hts.ext (by repeat (first | assumption | exact Ext.refl _ | refine Ext.drewN ?_ _ | refine Ext.alloc ?_ _))).row
        case c2 => exact one_strs ts
        case c3 => unfold maxLen; omega
        case c4 => omega
        case c5 => simp
        intro v1 w1 hown1 hgrow1
        have hx1 : Ext w w1 := Ext.grown (by repeat (first | assumption | exact Ext.refl _ | refine Ext.drewN ?_ _ | refine Ext.alloc ?_ _)) hgrow1 (by intro k h; cases h)
        clear hgrow1
        go_wp2_with (at_builtin; refine wpList_append_any rfl _ _ 85 rfl w.heap.size 9 i0 (.string ⟨#[]⟩) 1 16 Try.underlying85 hi hz0 hz1 hz2 rfl (by decide) _ _ _ rfl hown1 bo ms.length cap2 (strRow ms) rfl ?d0 ?d1 ?d2 ?d3 ?d4 ?d5 ?_)
        case d0 => simp [strRow]
        case d1 => exact (hms.ext hx1).row
        case d2 => exact one_strs ms
        case d3 => unfold maxLen; omega
        case d4 => omega
        case d5 => exact hx1.size
        intro v2 w2 hown2 hgrow2
        have hx2 : Ext w w2 := hx1.grown hgrow2 (own_ge hown1)
        have hv2 : ∃ co cp, v2 = .slice co (ts ++ ms).length cp ∧ TxtsAt w2 co (ts ++ ms) := txts_of_row (base := w.heap.size) (by
          have e1 : strRow (ts ++ ms) = [] ++ strRow ts ++ strRow ms := by simp [strRow]
          rw [e1, List.length_append]; simpa using hown2)
        clear hgrow2 hown2 hown1 hx1
        obtain ⟨co, cp, hv, hco⟩ := hv2
        rw [hv]
        clear hv
        generalize hL : (ts ++ ms).length = L at *
        go_wp2_with (go_at_call_of 58 (Value.slice co L cp); refine (CO2.out _ co cp hco).mono ?_; rintro e w' ⟨rfl, q6, rfl⟩)
        clear CO CO2 hco HL HL2 HS2
        go_loopw [9] (fun i wr => ∃ k q : Nat, k ≤ ts.length ∧ i = .int .i64 k ∧ wr = w2.drewN q) (fun i _ => ts.length - (intOf i).toNat)
        case atStart => exact ⟨0, q6, Nat.zero_le _, rfl, rfl⟩
        case round =>
          obtain ⟨k, q, hkk, rfl, rfl⟩ := hrel
          by_cases hlt : k < ts.length
          · obtain ⟨b, off, t, rfl, he, h1⟩ := (hts.ext hx2).get hlt
            have hm := HM.out t (List.mem_of_getElem? he)
            have hsz := HS.out t (List.mem_of_getElem? he)
            have C1 : Hid (∀ W, Calls Try.prog 57 #[.int .u64 (G : Int), .string t] W fun e w' => e = .returned (.bool true) ∧ ∃ q, w' = W.drewN q) := fun W => may_yes G t hG hsz hm.1 W
            have C2 : Hid (∀ W, Calls Try.prog 57 #[.int .u64 (G2 : Int), .string t] W fun e w' => e = .returned (.bool true) ∧ ∃ q, w' = W.drewN q) := fun W => may_yes G2 t hG2 hsz hm.2 W
            clear he hm hsz hts hms HM HS HK
            go_wp2_with (first
              | (go_at_call_of 57 (Value.int .u64 (G : Int)); refine (C1.out _).mono ?_; rintro e w' ⟨rfl, q7, rfl⟩)
              | (go_at_call_of 57 (Value.int .u64 (G2 : Int)); refine (C2.out _).mono ?_; rintro e w' ⟨rfl, q8, rfl⟩))
            go_roundw
            case rel => exact ⟨k + 1, _, by omega, by go_num, rfl⟩
            case measure => simp [intOf]; omega
          · have C1 : Hid (∀ W, Calls Try.prog 57 #[.int .u64 (G : Int), .string key] W fun e w' => e = .returned (.bool (mayN G key.data.toList)) ∧ ∃ q, w' = W.drewN q) := fun W => may_any G key W hG (by omega)
            have C2 : Hid (∀ W, Calls Try.prog 57 #[.int .u64 (G2 : Int), .string key] W fun e w' => e = .returned (.bool (mayN G2 key.data.toList)) ∧ ∃ q, w' = W.drewN q) := fun W => may_any G2 key W hG2 (by omega)
            have hK := HK.out
            clear hts hms HM HS HK
            generalize mayN G key.data.toList = x at *
            generalize mayN G2 key.data.toList = y at *
            cases x
            · go_wp2_with (first
                | (go_at_call_of 57 (Value.int .u64 (G : Int)); refine (C1.out _).mono ?_; rintro e w' ⟨rfl, q7, rfl⟩)
                | (go_at_call_of 57 (Value.int .u64 (G2 : Int)); refine (C2.out _).mono ?_; rintro e w' ⟨rfl, q8, rfl⟩))
              go_ret
              exact ⟨rfl, (by repeat (first | assumption | exact Ext.refl _ | refine Ext.drewN ?_ _ | refine Ext.alloc ?_ _))⟩
            · obtain rfl := hK rfl
              clear hK
              go_wp2_with (first
                | (go_at_call_of 57 (Value.int .u64 (G : Int)); refine (C1.out _).mono ?_; rintro e w' ⟨rfl, q7, rfl⟩)
                | (go_at_call_of 57 (Value.int .u64 (G2 : Int)); refine (C2.out _).mono ?_; rintro e w' ⟨rfl, q8, rfl⟩))
              go_ret
              exact ⟨rfl, (by repeat (first | assumption | exact Ext.refl _ | refine Ext.drewN ?_ _ | refine Ext.alloc ?_ _))⟩
      · clear hli hli2
        go_enter Try.func13, Try.ntmps13
        go_wp2_with (first
      | (go_at_call_of 58 (Value.slice none 0 0); refine (of_nil _).mono ?_; rintro e w' ⟨rfl, q0, rfl⟩)
      | (go_at_call_of 58 (Value.slice (some ⟨w.heap.size, 0, none⟩) 1 1); refine (of_one' w _).mono ?_; rintro e w' ⟨⟨F, rfl, hF⟩, q1, rfl⟩)
      | (go_at_call_of 57 (Value.int .u64 (F : Int)); refine (may_of_k F hF _).mono ?_; rintro e w' ⟨rfl, q3, rfl⟩)
      | (go_at_call_of 59 (Value.slice ao ts.length cap); refine (lightT_any ao cap ts _ hl (hts.ext (by repeat (first | assumption | exact Ext.refl _ | refine Ext.drewN ?_ _ | refine Ext.alloc ?_ _)))).mono ?_; rw [HL.out]; rintro e w' ⟨rfl, rfl⟩)
      | (go_at_call_of 59 (Value.slice bo ms.length cap2); refine (lightT_any bo cap2 ms _ hl2 (hms.ext (by repeat (first | assumption | exact Ext.refl _ | refine Ext.drewN ?_ _ | refine Ext.alloc ?_ _)))).mono ?_; rw [HL2.out]; rintro e w' ⟨rfl, rfl⟩))
        go_ret
        exact ⟨rfl, (by repeat (first | assumption | exact Ext.refl _ | refine Ext.drewN ?_ _ | refine Ext.alloc ?_ _))⟩
end Go.Proofs.Ytpldeejagomfjaa
