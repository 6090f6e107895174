
/- The walk of the document's EntriesOf. -/
import Derived.Test.YtpldeejagomfjaaEntQ
import Derived.BigRegion
namespace Go.Proofs.Ytpldeejagomfjaa
open Go.RowKit Go.WideShapes
attribute [local go_sem ↓] Go.wp_at_zero Go.wp_at_succ

theorem ix_at (s : ByteArray) (p : Nat) (a : UInt8) (hp : p < s.size) (h : s[p] = a) (z : Int) (hz : z = (p : Int)) (W : World) : (Instr.index 9 (.string s) (.int .i64 z)).run Try.prog W = .ok (.int .u8 (a.toNat : Int)) W := by
  subst hz
  have hp' : (p : Int) < (s.size : Int) := by omega
  simp [go_sem, Try.underlying9, hp, h]
theorem sl_at (s : ByteArray) (a b : Nat) (hab : a ≤ b) (hb : b ≤ s.size) (x y : Int) (hx : x = (a : Int)) (hy : y = (b : Int)) (W : World) : (Instr.slice 9 (.string s) (some (.int .i64 x)) (some (.int .i64 y)) none).run Try.prog W = .ok (.string (s.extract a b)) W := by
  subst hx hy
  have := run_slice_string (P := Try.prog) (w := W) 9 s .i64 .i64 (a : Int) (b : Int) Try.underlying9 (by omega) (by omega) (by omega)
  rw [this, Int.toNat_natCast, Int.toNat_natCast]

set_option maxRecDepth 20000 in
set_option maxHeartbeats 4000000 in
theorem refEntries_any (s : ByteArray) (w : World) (hs : s.size ≤ 281474976710656) :
    Calls Try.prog 25 #[.string s] w (RefEnd s w) := by
  by_cases h0 : s.size = 0
  · have h0' : s.toList.isEmpty = true := by rw [List.isEmpty_iff]; exact (toList_nil s).2 h0
    have HP : Hid (parseT s = none) := by unfold parseT Hid; rw [if_pos h0]
    clear h0
    go_enter Try.func25, Try.ntmps25
    go_wp2
    go_ret2
    exact .inl ⟨HP.out, rfl, Ext.refl _⟩
  · have hp : 0 < s.size := by omega
    have h0' : s.toList.isEmpty = false := by rw [List.isEmpty_eq_false_iff]; exact fun h => h0 ((toList_nil s).1 h)
    obtain ⟨i0, hi, hz0, hz1, hz2⟩ := info_parts Try.info30
    obtain ⟨nb, hnb⟩ : ∃ nb, s[0] = nb := ⟨_, rfl⟩
    have hnl : nb.toNat < 256 := nb.toNat_lt
    have HG : PGood s nb.toNat 0 (s.extract 1 s.size) [] := ⟨rfl, by simp, by
      unfold parseT; rw [if_neg (by omega), byteAt_eq s 0 hp, hnb]; simp⟩
    have HI : ∀ W : World, (Instr.index 9 (.string s) (.int .i64 0)).run Try.prog W = .ok (.int .u8 (nb.toNat : Int)) W := ix_at s 0 nb hp hnb 0 rfl
    clear hnb h0
    go_enter Try.func25, Try.ntmps25
    go_wp2_with fail
    go_loopw [4, 5, 6] (fun at' l i wr => ∃ (k p : Nat) (es : List Ent), k ≤ nb.toNat ∧ i = .int .i64 k ∧ p ≤ s.size ∧ at' = .int .i64 p ∧ wr.ownsRow w.heap.size 30 3 l es.length (rowOf es) ∧ Ext w wr ∧ PGood s nb.toNat k (s.extract p s.size) es)
      (fun _ _ i _ => nb.toNat - (intOf i).toNat)
    case atStart => exact ⟨0, 1, [], Nat.zero_le _, rfl, by omega, rfl, World.ownsRow_nil _ _ _ _, Ext.refl _, HG⟩
    case round =>
      clear HG
      obtain ⟨k, p, es, hk, rfl, hps, rfl, hown, hx, hg⟩ := hrel
      by_cases hlt : k < nb.toNat
      · have nope : ¬ okAt s p → Hid (parseT s = none) := fun h => hg.stop hlt (first_at_none s p hps h)
        by_cases h3 : p + 3 ≤ s.size
        · obtain ⟨a, ha⟩ : ∃ a, s[p] = a := ⟨_, rfl⟩
          obtain ⟨b, hb⟩ : ∃ b, s[p + 1] = b := ⟨_, rfl⟩
          obtain ⟨c, hc⟩ : ∃ c, s[p + 2] = c := ⟨_, rfl⟩
          have e0 : byteAt s p = a.toNat := by rw [byteAt_eq s p (by omega), ha]
          have e1 : byteAt s (p + 1) = b.toNat := by rw [byteAt_eq s (p + 1) (by omega), hb]
          have e2 : byteAt s (p + 2) = c.toNat := by rw [byteAt_eq s (p + 2) (by omega), hc]
          have I0 := ix_at s p a (by omega) ha (p : Int) rfl
          have I1 := ix_at s (p + 1) b (by omega) hb ((p : Int) + 1) (by omega)
          have I2 := ix_at s (p + 2) c (by omega) hc ((p : Int) + 2) (by omega)
          have hbl : b.toNat < 256 := b.toNat_lt
          have hcl : c.toNat < 256 := c.toNat_lt
          have H0 : Hid (byteAt s p = a.toNat) := e0
          have H1 : Hid (byteAt s (p + 1) = b.toNat) := e1
          have H2 : Hid (byteAt s (p + 2) = c.toNat) := e2
          clear e0 e1 e2 ha hb hc
          have h3' : ¬ ((s.size : Int) < (p : Int) + 3) := by omega
          by_cases ha1 : a.toNat ≤ 1
          · have ha1' : ¬ (1 : Int) < (a.toNat : Int) := by omega
            by_cases he : p + 3 + b.toNat + c.toNat ≤ s.size
            · have he' : ¬ ((s.size : Int) < (p : Int) + 3 + (b.toNat : Int) + (c.toNat : Int)) := by omega
              have S1 := sl_at s (p + 3) (p + 3 + b.toNat) (by omega) (by omega) ((p : Int) + 3) ((p : Int) + 3 + (b.toNat : Int)) (by omega) (by omega)
              have S2 := sl_at s (p + 3 + b.toNat) (p + 3 + b.toNat + c.toNat) (by omega) (by omega) ((p : Int) + 3 + (b.toNat : Int)) ((p : Int) + 3 + (b.toNat : Int) + (c.toNat : Int)) (by omega) (by omega)
              have hok : faultB (s.extract (p + 3) (p + 3 + b.toNat)) (s.extract (p + 3 + b.toNat) (p + 3 + b.toNat + c.toNat)) ((a.toNat : Int) == 1) = 0 → okAt s p := by
                intro hf; refine ⟨h3, by rw [H0.out]; exact ha1, by rw [H1.out, H2.out]; exact he, ?_⟩
                rw [H0.out, H1.out, H2.out, ← gone_int]; exact hf
              have hbad : ¬ faultB (s.extract (p + 3) (p + 3 + b.toNat)) (s.extract (p + 3 + b.toNat) (p + 3 + b.toNat + c.toNat)) ((a.toNat : Int) == 1) = 0 → ¬ okAt s p := by
                rintro hf ⟨_, _, _, h4⟩; rw [H0.out, H1.out, H2.out, ← gone_int] at h4; exact hf h4
              have hsome : okAt s p → PGood s nb.toNat (k + 1) (s.extract (p + (3 + b.toNat + c.toNat)) s.size) (es ++ [⟨s.extract (p + 3) (p + 3 + b.toNat), s.extract (p + 3 + b.toNat) (p + 3 + b.toNat + c.toNat), (a.toNat : Int) == 1⟩]) := by
                intro h
                have hf := first_at_some s p h
                rw [H0.out, H1.out, H2.out, ← gone_int] at hf
                have := hg.step hlt hf
                rwa [rest_rest] at this
              have hesl := hg.len
              generalize s.extract (p + 3) (p + 3 + b.toNat) = K at *
              generalize s.extract (p + 3 + b.toNat) (p + 3 + b.toNat + c.toNat) = V at *
              by_cases hf : faultB K V ((a.toNat : Int) == 1) = 0
              · have HF : Hid (faultB K V ((a.toNat : Int) == 1) = 0) := hf
                have hg' := hsome (hok hf)
                have HL : Hid (es.length = k) := hesl
                clear hsome hok hbad nope hf hg hesl H0 H1 H2
                go_wp2
                go_big_region
                go_wp2_with (first
                  | (go_at_call 21; refine (fault_ok K V _ _ HF.out).mono ?_; rintro e w' ⟨rfl, cc, rfl⟩)
                  | (at_builtin; refine wpList_append_own _ rfl _ _ 22 rfl w.heap.size 30 i0 (.agg #[.string ⟨#[]⟩, .string ⟨#[]⟩, .bool false]) 3 40 Try.underlying22 hi hz0 hz1 hz2 rfl (by decide) _ _ _ rfl (by exact (((hown.alloc _).alloc _).alloc _).drew) _ 1 1 [.string K, .string V, .bool ((a.toNat : Int) == 1)] rfl rfl ?c1 ?c2 ?c3 ?c4 ?c5 ?_))
                case c1 => exact news_cells (Blk.drew (Blk.new' ((wr.alloc (.cells #[.string K, .string V, .bool ((a.toNat : Int) == 1)] 30)).alloc (.cells cc 30)) _ _ (by simp)))
                case c2 => intro u hu; simp at hu; rcases hu with rfl | rfl | rfl <;> rfl
                case c3 => have := HL.out; unfold maxLen; omega
                case c4 => have := HL.out; omega
                case c5 => have := hx.size; simp; omega
                intro v' w2 hown2 hgrow2 _
                have hx2 : Ext w w2 := ((((hx.alloc _).alloc _).alloc _).drew).grown hgrow2 (own_geP hown rfl)
                have hown3 : w2.ownsRow w.heap.size 30 3 v' (es ++ [(⟨K, V, (a.toNat : Int) == 1⟩ : Ent)]).length (rowOf (es ++ [(⟨K, V, (a.toNat : Int) == 1⟩ : Ent)])) := by
                  rw [rowOf_snoc]; simpa [entCells] using hown2
                clear hown2 hgrow2 hown hx
                go_wp2
                go_roundw
                case rel => exact ⟨k + 1, p + (3 + b.toNat + c.toNat), _, by omega, by go_num, by omega, by go_num, hown3, hx2, hg'⟩
                case measure => simp [intOf]; omega
              · have HF : Hid (¬ faultB K V ((a.toNat : Int) == 1) = 0) := hf
                have HP := nope (hbad hf)
                clear hsome hok hbad nope hf hg hesl H0 H1 H2
                go_wp2
                go_big_region
                go_wp2_with (go_at_call 21; refine (fault_bad K V _ _ HF.out).mono ?_; rintro e w' ⟨⟨nn, rfl, hnn, hpos⟩, cc, rfl⟩; clear hnn)
                go_ret2
                exact .inl ⟨HP.out, rfl, by repeat (first | assumption | refine Ext.drew ?_ | refine Ext.alloc ?_ _)⟩
            · have HP := nope (by rintro ⟨_, _, h, _⟩; rw [H1.out, H2.out] at h; exact he h)
              clear nope hg hown
              go_wp2
              go_ret2
              exact .inl ⟨HP.out, rfl, hx⟩
          · have HP := nope (by rintro ⟨_, h, _, _⟩; rw [H0.out] at h; exact ha1 h)
            have ha1' : (1 : Int) < (a.toNat : Int) := by omega
            clear nope hg hown
            go_wp2
            go_ret2
            exact .inl ⟨HP.out, rfl, hx⟩
        · have HP := nope (by rintro ⟨h, _, _, _⟩; exact h3 h)
          have h3' : (s.size : Int) < (p : Int) + 3 := by omega
          clear nope hg hown
          go_wp2
          go_ret2
          exact .inl ⟨HP.out, rfl, hx⟩
      · have hkn : k = nb.toNat := by omega
        have HP : Hid (parseT s = if blankL (s.extract p s.size).data.toList then some es else none) := hg.fin hkn
        clear hg
        go_wp2_with fail
        go_loop [10] (fun j => ∃ q : Nat, p ≤ q ∧ q ≤ s.size ∧ j = .int .i64 q ∧ restTo s p q) (fun j => s.size - (intOf j).toNat)
        case atStart => exact ⟨p, Nat.le_refl _, hps, rfl, by intro i h1 h2; omega⟩
        case round =>
          obtain ⟨q, hpq, hqs, rfl, hr⟩ := hrel
          have HR : Hid (restTo s p q) := hr
          clear hr
          by_cases hq : q < s.size
          · obtain ⟨a, ha⟩ : ∃ a, s[q] = a := ⟨_, rfl⟩
            have H0 : Hid (byteAt s q = a.toNat) := by unfold Hid; rw [byteAt_eq s q hq, ha]
            have I0 := ix_at s q a hq ha (q : Int) rfl
            clear ha
            by_cases ha0 : a.toNat = 0
            · have hb : ((a.toNat : Int) != 0) = false := by rw [ha0]; rfl
              have HA : Hid (a.toNat = 0) := ha0
              clear ha0
              go_wp2
              go_round
              case rel => exact ⟨q + 1, by omega, by omega, by go_num, by
                intro i h1 h2
                rcases Nat.lt_or_ge i q with h | h
                · exact HR.out i h1 h
                · have : i = q := by omega
                  subst this; rw [H0.out, HA.out]⟩
              case measure => simp [intOf]; omega
            · have hb : ((a.toNat : Int) != 0) = true := by rw [bne_iff_ne]; omega
              have HB : Hid (blankL (s.extract p s.size).data.toList = false) := rest_not s p q hpq hq (by rw [H0.out]; exact ha0)
              clear ha0
              go_wp2
              go_ret2
              exact .inl ⟨by rw [HP.out, HB.out]; rfl, rfl, hx⟩
          · have hqe : q = s.size := by omega
            have HB : Hid (blankL (s.extract p s.size).data.toList = true) := rest_blank s p (by have := HR.out; rwa [hqe] at this)
            clear hqe
            go_wp2
            go_ret2
            exact .inr ⟨es, _, by rw [HP.out, HB.out]; rfl, rfl, hown, hx⟩

end Go.Proofs.Ytpldeejagomfjaa
