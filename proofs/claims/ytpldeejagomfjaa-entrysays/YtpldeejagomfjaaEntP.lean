
/- What Parse answers. -/
import Derived.Test.YtpldeejagomfjaaEntD
namespace Go.Proofs.Ytpldeejagomfjaa
open Go.RowKit
attribute [local go_sem ↓] Go.wp_at_zero Go.wp_at_succ

/-- Behind k rounds: es are read, 'rest' is left. -/
structure PGood (s : ByteArray) (n k : Nat) (rest : ByteArray) (es : List Ent) : Prop where
  len : es.length = k
  size : rest.size ≤ s.size
  spec : parseT s = (parseS (n - k) rest).map (es ++ ·)

theorem ownsRow_ext {a b : World} {base : Nat} {t : TypeId} {size n : Nat} {v : Value} {xs : List Value} (h : a.ownsRow base t size v n xs) (he : Ext a b) : b.ownsRow base t size v n xs := by
  refine ⟨h.1, ?_⟩
  rcases h.2 with hn | ⟨g, cap, cur, rfl, hb, hgg, rest⟩
  · exact .inl hn
  · exact .inr ⟨g, cap, cur, rfl, hb, by rw [he.below.block g (lt_of_block hgg)]; exact hgg, rest⟩
theorem own_geP {a b : World} {base : Nat} {t : TypeId} {size n : Nat} {v : Value} {xs : List Value} (h : b.ownsRow base t size v n xs) (hb : base = a.heap.size) : ∀ k, v.ownBlock = some k → a.heap.size ≤ k :=
  fun k hk => hb ▸ (h.lt k hk).1
theorem PGood.step {s rest : ByteArray} {n k m : Nat} {es : List Ent} {e : Ent} (h : PGood s n k rest es) (hk : k < n) (hf : firstS rest = some (e, m)) : PGood s n (k + 1) (rest.extract m rest.size) (es ++ [e]) := by
  refine ⟨by simp [h.len], ?_, ?_⟩
  · have := h.size; simp; omega
  · rw [h.spec, show n - k = (n - (k + 1)) + 1 by omega, parseS, hf]
    simp only [Option.map_map]
    congr 1; funext x; simp
theorem PGood.stop {s rest : ByteArray} {n k : Nat} {es : List Ent} (h : PGood s n k rest es) (hk : k < n) (hf : firstS rest = none) : parseT s = none := by
  rw [h.spec, show n - k = (n - (k + 1)) + 1 by omega, parseS, hf]; rfl
theorem PGood.fin {s rest : ByteArray} {n k : Nat} {es : List Ent} (h : PGood s n k rest es) (hk : k = n) : parseT s = if blankL rest.data.toList then some es else none := by
  subst hk
  rw [h.spec, Nat.sub_self, parseS]; split <;> simp
theorem first_size {s : ByteArray} {e : Ent} {m : Nat} (h : firstS s = some (e, m)) : m ≤ s.size := by
  unfold firstS at h; split at h
  · rename_i hc; simp only [Option.some.injEq, Prod.mk.injEq] at h; omega
  · simp at h

/-- What is answered. -/
def ParseEnd (s : ByteArray) (w : World) (e : Ending) (w' : World) : Prop :=
  (parseT s = none ∧ e = .returned (.tuple #[.slice none 0 0, .iface 123 (.int .i64 4)]) ∧ Ext w w') ∨
  (∃ es v, parseT s = some es ∧ e = .returned (.tuple #[v, .nilIface]) ∧ w'.ownsRow w.heap.size 30 3 v es.length (rowOf es) ∧ Ext w w')

set_option maxHeartbeats 1000000 in
set_option maxRecDepth 20000 in
theorem parse_any (s : ByteArray) (w : World) (hs : s.size ≤ 281474976710656) :
    Calls Try.prog 24 #[.string s] w (ParseEnd s w) := by
  by_cases h0 : s.size = 0
  · have h0' : s.toList = [] := (toList_nil s).2 h0
    have HP : Hid (parseT s = none) := by unfold parseT Hid; rw [if_pos h0]
    clear h0
    go_enter Try.func24, Try.ntmps24
    go_wp2
    go_ret2
    exact .inl ⟨HP.out, rfl, Ext.refl _⟩
  · have hp : 0 < s.size := by omega
    have h0' : s.toList.isEmpty = false := by rw [List.isEmpty_eq_false_iff]; exact fun h => h0 ((toList_nil s).1 h)
    obtain ⟨i0, hi, hz0, hz1, hz2⟩ := info_parts Try.info30
    obtain ⟨nb, hnb⟩ : ∃ nb, s[0] = nb := ⟨_, rfl⟩
    have hlt := nb.toNat_lt
    go_enter Try.func24, Try.ntmps24
    go_wp2
    go_quiet (fail)
    go_wp2_with (at_make; refine wpList_make_own _ rfl _ _ 22 rfl w.heap.size 30 i0 (.agg #[.string ⟨#[]⟩, .string ⟨#[]⟩, .bool false]) 3 Try.underlying22 hi hz0 hz1 _ _ _ nb.toNat rfl rfl (by omega) ?b2 ?b3 (Nat.le_refl _) ?_)
    case b2 => rw [hz2]; omega
    case b3 => unfold maxLen; omega
    intro w1 hown hgrow
    have hx : Ext w w1 := ((Ext.refl w).drewN nq).grown hgrow (by intro k h; cases h)
    have HG : PGood s nb.toNat 0 (s.extract 1 s.size) [] := ⟨rfl, by simp, by
      unfold parseT; rw [if_neg (by omega), byteAt_eq s 0 hp, hnb]; simp⟩
    clear hgrow
    go_wp2_with fail
    go_loopw [5, 6, 21] (fun r l i wr => ∃ (k : Nat) (rest : ByteArray) (es : List Ent), k ≤ nb.toNat ∧ i = .int .i64 k ∧ r = .string rest ∧ wr.ownsRow w.heap.size 30 3 l es.length (rowOf es) ∧ Ext w wr ∧ PGood s nb.toNat k rest es)
      (fun _ _ i _ => nb.toNat - (intOf i).toNat)
    case atStart => exact ⟨0, _, [], Nat.zero_le _, rfl, rfl, hown, hx, HG⟩
    case round =>
      clear hown hx HG hnb h0' hp h0
      obtain ⟨k, rest, es, hk, rfl, rfl, hown, hx, hg⟩ := hrel
      have hrs : rest.size ≤ 281474976710656 := Nat.le_trans hg.size hs
      by_cases hlt : k < nb.toNat
      · cases hf : firstS rest with
        | none =>
          have HP : Hid (parseT s = none) := hg.stop hlt hf
          have HF : Hid (firstS rest = none) := hf
          clear hf hown hg
          go_wp2_with (go_at_call 81; refine (first_none rest _ hrs HF.out).mono ?_; rintro e w' ⟨rfl, hx1⟩)
          go_ret2
          exact .inl ⟨HP.out, rfl, (hx.trans hx1).alloc _⟩
        | some p =>
          obtain ⟨e, m⟩ := p
          have HF : Hid (firstS rest = some (e, m)) := hf
          have hm := first_size hf
          have hg' := hg.step hlt hf
          clear hf
          obtain ⟨key, val, gone⟩ := e
          go_wp2_with (first
            | (go_at_call 81; refine (first_some rest _ hrs _ m HF.out).mono ?_; rintro e w' ⟨rfl, hx1⟩; have hown1 := ownsRow_ext hown hx1)
            | (at_builtin; refine wpList_append_own _ rfl _ _ 22 rfl w.heap.size 30 i0 (.agg #[.string ⟨#[]⟩, .string ⟨#[]⟩, .bool false]) 3 40 Try.underlying22 hi hz0 hz1 hz2 rfl (by decide) _ _ _ rfl ((hown1.alloc _).alloc _) ⟨w'.heap.size + 1, 0, none⟩ 1 1 [.string key, .string val, .bool gone] rfl rfl ?c1 ?c2 ?c3 ?c4 ?c5 ?_))
          case c1 => exact news_cells (Blk.new' _ _ _ (by simp))
          case c2 => intro u hu; simp at hu; rcases hu with rfl | rfl | rfl <;> rfl
          case c3 => have := hg.len; unfold maxLen; omega
          case c4 => have := hg.len; omega
          case c5 => have := (hx.trans hx1).size; simp; omega
          intro v' w2 hown2 hgrow2 _
          have hx2 : Ext w w2 := (((hx.trans hx1).alloc _).alloc _).grown hgrow2 (own_geP hown rfl)
          have hown3 : w2.ownsRow w.heap.size 30 3 v' (es ++ [(⟨key, val, gone⟩ : Ent)]).length (rowOf (es ++ [(⟨key, val, gone⟩ : Ent)])) := by
            rw [rowOf_snoc]; simpa [entCells] using hown2
          clear hown2 hgrow2 hown1 hown hx hx1
          go_wp2
          go_roundw
          case rel => exact ⟨k + 1, _, _, by omega, by go_num, rfl, hown3, hx2, hg'⟩
          case measure => simp [intOf]; omega
      · have hkn : k = nb.toNat := by omega
        have HP : Hid (parseT s = if blankL rest.data.toList then some es else none) := hg.fin hkn
        clear hkn hg
        cases hb : blankL rest.data.toList with
        | true =>
          go_wp2_with (go_at_call 82; refine (blank_any rest _ (by omega)).mono ?_; rw [hb]; rintro e w' ⟨rfl, rfl⟩)
          go_ret2
          exact .inr ⟨es, _, by rw [HP.out, hb]; rfl, rfl, hown, hx⟩
        | false =>
          go_wp2_with (go_at_call 82; refine (blank_any rest _ (by omega)).mono ?_; rw [hb]; rintro e w' ⟨rfl, rfl⟩)
          go_ret2
          exact .inl ⟨by rw [HP.out, hb]; rfl, rfl, hx⟩

end Go.Proofs.Ytpldeejagomfjaa
