/- BatE. -/
import Derived.Test.YthndopokabceiaaDoorBatDJ
import Derived.Test.YthndopokabceiaaDoorEntAJ

/- Changes as a text: the document's words. -/
namespace Go.Proofs.YthndopokabceiaaDoor
open Go.RowKit Go.WideShapes

/-- A list of texts that was made behind the world W0. -/
structure Sls (W0 w : World) (v : Value) (xs : List ByteArray) : Prop where
  own : w.ownsRow W0.heap.size 9 1 v xs.length (xs.map Value.string)
  ext : Ext W0 w
theorem Sls.nil {W0 w : World} (h : Ext W0 w) : Sls W0 w (.slice none 0 0) [] := ⟨World.ownsRow_nil _ _ _ _, h⟩
theorem Sls.alloc {W0 w : World} {v : Value} {xs : List ByteArray} (h : Sls W0 w v xs) (o : Obj) : Sls W0 (w.alloc o) v xs := ⟨h.own.alloc o, h.ext.alloc o⟩
/-- Texts in memory. -/
def StrsAt (w : World) (ao : Option Addr) (xs : List ByteArray) : Prop := xs ≠ [] → ∃ b off, ao = some ⟨b, off, none⟩ ∧ ∀ i x, xs[i]? = some x → w.cell? ⟨b, off + i, none⟩ = some (.string x)
theorem StrsAt.ext {w w' : World} {ao : Option Addr} {xs : List ByteArray} (h : StrsAt w ao xs) (hx : Ext w w') : StrsAt w' ao xs := fun hne => by
  obtain ⟨b, off, e, hc⟩ := h hne
  exact ⟨b, off, e, fun i x hi => hx.cell (hc i x hi)⟩
theorem StrsAt.get {w : World} {ao : Option Addr} {xs : List ByteArray} (h : StrsAt w ao xs) {k : Nat} (hk : k < xs.length) : ∃ b off x, ao = some ⟨b, off, none⟩ ∧ xs[k]? = some x ∧ w.cell? ⟨b, off + k, none⟩ = some (.string x) := by
  obtain ⟨b, off, e, hc⟩ := h (fun e => by subst e; cases hk)
  exact ⟨b, off, xs[k], e, List.getElem?_eq_getElem hk, hc k _ (List.getElem?_eq_getElem hk)⟩
theorem Sls.at {W0 w : World} {v : Value} {xs : List ByteArray} (h : Sls W0 w v xs) : ∃ ao cap, v = .slice ao xs.length cap ∧ StrsAt w ao xs := by
  obtain ⟨hlen, hcase⟩ := h.own
  rcases hcase with ⟨rfl, h0⟩ | ⟨g, cap, cur, rfl, _, hh, _, _, _, htake⟩
  · have : xs = [] := List.eq_nil_of_length_eq_zero h0
    subst this
    exact ⟨none, 0, rfl, fun h => absurd rfl h⟩
  · refine ⟨_, cap, rfl, fun _ => ⟨g, 0, rfl, fun i x hi => ?_⟩⟩
    have hj : (xs.map Value.string)[i]? = some (.string x) := by rw [List.getElem?_map, hi]; rfl
    rw [← htake, List.getElem?_take] at hj
    rw [Nat.zero_add]
    split at hj
    · simp only [World.cell?, hh]; simpa using hj
    · simp at hj
theorem wpList_app_str {w : World} {ops : Array Oper} {rest : List Oper} {o : Oper} {a : Act} {Q : Exit → Act → World → Prop} (hgd : o.guard = none) (s x : Operand)
    (ho : o.op = .call { callee := .builtin .append, args := #[s, x], argTypes := #[102, 102] })
    (W0 : World) (v : Value) (xs : List ByteArray) (hs : a.eval s = v) (hl : Sls W0 w v xs) (g : Nat) (t : ByteArray) (hx : a.eval x = .slice (some ⟨g, 0, none⟩) 1 1)
    (hb : Blk w g #[.string t] 9) (hn : xs.length ≤ 100000)
    (h : ∀ v' w', Sls W0 w' v' (xs ++ [t]) → wpList Tryd.prog ops Q rest (a.put o.dst v') w') : wpList Tryd.prog ops Q (o :: rest) a w := by
  obtain ⟨i0, hi, hz0, hz1, hz2⟩ := info_parts Tryd.infoStr
  refine wpList_append_own w hgd s x 102 ho W0.heap.size 9 i0 (.string ⟨#[]⟩) 1 16 Tryd.underlying102 hi hz0 hz1 hz2 rfl (by decide) v xs.length (xs.map Value.string) hs hl.own ⟨g, 0, none⟩ 1 1 [.string t] hx rfl ?_ ?_ ?_ ?_ hl.ext.size ?_
  · intro j u hj
    match j, hj with
    | 0, hj => simp at hj; subst hj; exact hb.cell 0
    | j + 1, hj => simp at hj
  · intro u hu; simp only [List.mem_cons, List.not_mem_nil, or_false] at hu; rcases hu with rfl; rfl
  · unfold maxLen; omega
  · omega
  · intro v' w' p q _
    refine h v' w' ⟨?_, hl.ext.grown q (own_ge hl.own)⟩
    rw [List.map_append, List.length_append]; exact p
theorem toL_take (s : ByteArray) (f k : Nat) : (s.extract f k).data.toList = (s.data.toList.take k).drop f := by
  rw [Lib.extract_data]; simp [List.drop_take]
/-- One sign more of a text that is cut at blanks. -/
structure SpG (s : ByteArray) (f k : Nat) (done : List ByteArray) : Prop where
  le : f ≤ k ∧ k ≤ s.size
  no : (32 : UInt8) ∉ (s.data.toList.take k).drop f
  eq : wordsL s = done ++ (splitL (s.data.toList.drop f)).map fun l => ⟨l.toArray⟩
  few : done.length ≤ f
theorem SpG.start (s : ByteArray) : SpG s 0 0 [] := ⟨⟨Nat.le_refl _, Nat.zero_le _⟩, by simp, by simp [wordsL], Nat.zero_le _⟩
theorem SpG.step {s : ByteArray} {f k : Nat} {done : List ByteArray} (h : SpG s f k done) (hk : k < s.size) (hc : ¬ s[k] = 32) : SpG s f (k + 1) done := by
  refine ⟨⟨by have := h.le; omega, hk⟩, ?_, h.eq, h.few⟩
  rw [take_byteP s k hk, List.drop_append_of_le_length (by have := h.le; simp; have e : s.data.size = s.size := rfl; omega)]
  intro hm
  rcases List.mem_append.1 hm with hm | hm
  · exact h.no hm
  · simp at hm; exact hc hm.symm
theorem SpG.cut {s : ByteArray} {f k : Nat} {done : List ByteArray} (h : SpG s f k done) (hk : k < s.size) (hc : s[k] = 32) : SpG s (k + 1) (k + 1) (done ++ [s.extract f k]) := by
  have hl : s.data.toList.length = s.size := by rw [Lib.size_eq]
  have hfk := h.le
  refine ⟨⟨Nat.le_refl _, hk⟩, by simp, ?_, by have := h.few; simp; omega⟩
  have e : s.data.toList.drop f = (s.data.toList.take k).drop f ++ 32 :: s.data.toList.drop (k + 1) := by
    have e1 : s.data.toList = s.data.toList.take k ++ s.data.toList.drop k := (List.take_append_drop k _).symm
    have e2 : s.data.toList.drop k = 32 :: s.data.toList.drop (k + 1) := by
      rw [List.drop_eq_getElem_cons (by omega)]
      congr 1
    conv => lhs; rw [e1, List.drop_append_of_le_length (by simp; omega), e2]
  rw [h.eq, e, splitL_some _ _ h.no]
  simp only [List.map_cons, List.append_assoc, List.singleton_append]
  congr 2
  exact (ba_eq (by rw [toL_take])).symm
theorem SpG.fin {s : ByteArray} {f : Nat} {done : List ByteArray} (h : SpG s f s.size done) : wordsL s = done ++ [s.extract f s.size] := by
  have hl : s.data.toList.length = s.size := by rw [Lib.size_eq]
  have hn := h.no
  rw [List.take_of_length_le (by omega)] at hn
  rw [h.eq, splitL_none _ hn]
  simp only [List.map_cons, List.map_nil]
  congr 2
  exact (ba_eq (by rw [toL_take, List.take_of_length_le (by omega)])).symm
set_option maxRecDepth 20000 in
set_option maxHeartbeats 2000000 in
theorem rsplit_any (s : ByteArray) (w : World) (hs : s.size ≤ 1000) :
    Calls Tryd.prog 61 #[.string s] w fun e w' => ∃ v, e = .returned v ∧ Sls w w' v (wordsL s) := by
  go_enter Tryd.func61, Tryd.ntmps61
  go_wp2
  go_loopw [3, 4, 5] (fun v f i wr => ∃ (fk k : Nat) (done : List ByteArray), i = .int .i64 k ∧ f = .int .i64 fk ∧ SpG s fk k done ∧ Sls w wr v done) (fun _ _ i _ => s.size - (intOf i).toNat)
  case atStart => exact ⟨0, 0, [], rfl, rfl, SpG.start s, Sls.nil (Ext.refl _)⟩
  case round =>
    obtain ⟨fk, k, done, rfl, rfl, hG, hL⟩ := hrel
    have hle := hG.le
    have hfew := hG.few
    have HG : Hid (SpG s fk k done) := hG
    clear hG
    by_cases hlt : k < s.size
    · by_cases hc : s[k] = 32
      · have HC : Hid (SpG s (k + 1) (k + 1) (done ++ [s.extract fk k])) := HG.out.cut hlt hc
        have hc' : ((s[k].toNat : Int) == 32) = true := by rw [hc]; rfl
        clear hc HG
        go_wp2_with (at_builtin; refine wpList_app_str rfl _ _ rfl w _ done rfl ?c1 _ (s.extract fk k) rfl ?c2 ?c3 ?_)
        case c1 => exact hL.alloc _
        case c2 => exact Blk.new' _ _ _ (by simp)
        case c3 => omega
        intro v2 w2 hL2
        clear hL
        go_wp2
        go_roundw
        case rel => exact ⟨k + 1, k + 1, _, by go_num, by go_num, HC.out, hL2⟩
        case measure => simp [intOf]; omega
      · have HC : Hid (SpG s fk (k + 1) done) := HG.out.step hlt hc
        have hc' : ((s[k].toNat : Int) == 32) = false := by
          rw [beq_eq_false_iff_ne]
          intro e
          exact hc (UInt8.toNat_inj.1 (by show s[k].toNat = 32; omega))
        clear hc HG
        go_wp2
        go_roundw
        case rel => exact ⟨fk, k + 1, done, by go_num, rfl, HC.out, hL⟩
        case measure => simp [intOf]; omega
    · have hk : k = s.size := by omega
      subst hk
      have HF : Hid (wordsL s = done ++ [s.extract fk s.size]) := HG.out.fin
      clear HG
      go_wp2_with (at_builtin; refine wpList_app_str rfl _ _ rfl w _ done rfl ?c1 _ (s.extract fk s.size) rfl ?c2 ?c3 ?_)
      case c1 => exact hL.alloc _
      case c2 => exact Blk.new' _ _ _ (by simp)
      case c3 => omega
      intro v2 w2 hL2
      clear hL
      go_wp2
      go_ret
      exact ⟨_, rfl, by rw [HF.out]; exact hL2⟩
set_option maxHeartbeats 2000000 in
theorem rplain_any (s : ByteArray) (w : World) (hs : s.size ≤ 9223372036854775807) :
    Calls Tryd.prog 58 #[.string s] w fun e w' => e = .returned (.bool (plainS s)) ∧ w' = w := by
  go_enter Tryd.func58, Tryd.ntmps58
  go_wp2
  go_loop [3] (fun i => ∃ k : Nat, k ≤ s.size ∧ i = .int .i64 k ∧ (s.data.toList.take k).all plainC = true) (fun i => s.size - (intOf i).toNat)
  case atStart => exact ⟨0, Nat.zero_le _, rfl, rfl⟩
  case round =>
    obtain ⟨k, hk, rfl, hall⟩ := hrel
    by_cases hlt : k < s.size
    · cases hc : plainC s[k] with
      | true =>
        have HS : Hid ((s.data.toList.take (k + 1)).all plainC = true) := by
          rw [Hid, take_byteP s k hlt, List.all_append, hall]; simp [hc]
        clear hall
        have hc' : (97 ≤ (s[k].toNat : Int) ∧ (s[k].toNat : Int) ≤ 122) ∨ (48 ≤ (s[k].toNat : Int) ∧ (s[k].toNat : Int) ≤ 57) := by
          unfold plainC at hc; simp at hc; omega
        clear hc
        rcases hc' with ⟨h1, h2⟩ | ⟨h1, h2⟩
        all_goals
          go_wp2
          go_round
          case rel => exact ⟨k + 1, by omega, by go_num, HS.out⟩
          case measure => simp [intOf]; omega
      | false =>
        have HS : Hid (plainS s = false) := plain_stop hlt hc
        clear hall
        have hc' : (s[k].toNat : Int) < 48 ∨ (57 < (s[k].toNat : Int) ∧ (s[k].toNat : Int) < 97) ∨ 122 < (s[k].toNat : Int) := by
          unfold plainC at hc; simp at hc; omega
        clear hc
        rcases hc' with h1 | ⟨h1, h2⟩ | h1
        all_goals
          go_wp2
          go_ret
          exact ⟨by rw [HS.out]; rfl, rfl⟩
    · have HS : Hid (plainS s = true) := by
        rw [List.take_of_length_le (by simp; omega)] at hall
        exact hall
      clear hall
      go_wp2
      go_ret
      exact ⟨by rw [HS.out]; rfl, rfl⟩
end Go.Proofs.YthndopokabceiaaDoor
