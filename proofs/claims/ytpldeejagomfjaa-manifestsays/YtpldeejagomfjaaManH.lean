
/- Manifests: Parse, of any text. -/
import Derived.Test.YtpldeejagomfjaaManF
namespace Go.Proofs.Ytpldeejagomfjaa
open Go.RowKit Go.WideShapes
attribute [local go_sem ↓] Go.wp_at_zero Go.wp_at_succ

/-- A manifest. -/
structure Man where
  ep : Int
  lg : Int
  nw : List Int
  od : List Int
def manFault (m : Man) : Int := manF m.ep m.lg m.nw m.od
def byteL (l : List UInt8) (i : Nat) : Nat := (l.getD i 0).toNat
/-- The manifest that bytes tell of, whether it may be or not. -/
def rawM (l : List UInt8) : Man :=
  ⟨(byteL l 1 : Int) + 256 * (byteL l 2 : Int) + 65536 * (byteL l 3 : Int), (byteL l 4 : Int), numsOf ((l.drop 7).take (byteL l 5)), numsOf ((l.drop (7 + byteL l 5)).take (byteL l 6))⟩
def parseB (l : List UInt8) : Option Man :=
  if 7 ≤ l.length ∧ byteL l 0 = 77 ∧ 7 + byteL l 5 + byteL l 6 ≤ l.length ∧ manFault (rawM l) = 0 then some (rawM l) else none
/-- A manifest as a value, its numbers behind block g. -/
def ManV (W : World) (g : Nat) (m : Man) (v : Value) : Prop := ∃ a1 c1 a2 c2, v = .agg #[.int .i64 m.ep, .int .i64 m.lg, .slice a1 m.nw.length c1, .slice a2 m.od.length c2] ∧ NumsF W g a1 m.nw ∧ NumsF W g a2 m.od
theorem ManV.ext {W W' : World} {g : Nat} {m : Man} {v : Value} (h : ManV W g m v) (hx : Ext W W') : ManV W' g m v := by
  obtain ⟨a1, c1, a2, c2, e, h1, h2⟩ := h
  exact ⟨a1, c1, a2, c2, e, NumsF.ext hx h1, NumsF.ext hx h2⟩
theorem ManV.mono {W : World} {g g' : Nat} {m : Man} {v : Value} (h : ManV W g m v) (hg : g' ≤ g) : ManV W g' m v := by
  obtain ⟨a1, c1, a2, c2, e, h1, h2⟩ := h
  exact ⟨a1, c1, a2, c2, e, h1.mono hg, h2.mono hg⟩
def zeroV : Value := .agg #[.int .i64 0, .int .i64 0, .slice none 0 0, .slice none 0 0]
def PEnd (w w' : World) (e : Ending) (o : Option Man) : Prop :=
  (∃ m v, o = some m ∧ e = .returned (.tuple #[v, .nilIface]) ∧ ManV w' w.heap.size m v ∧ Ext w w') ∨ (o = none ∧ e = .returned (.tuple #[zeroV, .iface 123 (.int .i64 4)]) ∧ Ext w w')
theorem byteL_get (s : ByteArray) (i : Nat) (h : i < s.size) : byteL s.data.toList i = s[i].toNat := by
  unfold byteL
  rw [List.getD_eq_getElem?_getD, List.getElem?_eq_getElem (by simpa using h)]
  rfl

set_option maxRecDepth 20000 in
set_option maxHeartbeats 1000000 in
theorem parseM_short (s : ByteArray) (w : World) (h : s.size < 7) :
    Calls Try.prog 72 #[.string s] w fun e w' => e = .returned (.tuple #[zeroV, .iface 123 (.int .i64 4)]) ∧ Ext w w' := by
  have h' : (s.size : Int) < 7 := by omega
  go_enter Try.func72, Try.ntmps72
  go_wp2
  refine bodyPost_ret (v := .tuple #[zeroV, .iface 123 (.int .i64 4)]) (by simp [results, go_sem, zeroV]) rfl ⟨rfl, ?_⟩
  exact (Ext.refl w).alloc _
set_option maxRecDepth 20000 in
set_option maxHeartbeats 1000000 in
theorem parseM_mark (s : ByteArray) (w : World) (h7 : 7 ≤ s.size) (h : ¬ s[0].toNat = 77) :
    Calls Try.prog 72 #[.string s] w fun e w' => e = .returned (.tuple #[zeroV, .iface 123 (.int .i64 4)]) ∧ Ext w w' := by
  have h' : ¬ (s.size : Int) < 7 := by omega
  have hp : 0 < s.size := by omega
  have ix : ∀ W : World, (Instr.index 9 (.string s) (.int .i64 0)).run Try.prog W = .ok (.int .u8 (s[0].toNat : Int)) W := fun W => by
    simp [go_sem, Try.underlying9, hp]
  have h'' : ¬ (s[0].toNat : Int) = 77 := by omega
  generalize (s[0].toNat : Int) = x at *
  clear h
  go_enter Try.func72, Try.ntmps72
  go_wp2
  refine bodyPost_ret (v := .tuple #[zeroV, .iface 123 (.int .i64 4)]) (by simp [results, go_sem, zeroV]) rfl ⟨rfl, ?_⟩
  exact (Ext.refl w).alloc _
set_option maxRecDepth 20000 in
set_option maxHeartbeats 1000000 in
theorem parseM_far (s : ByteArray) (w : World) (h7 : 7 ≤ s.size) (hs : s.size ≤ 1000) (h : s[0].toNat = 77) (hf : ¬ 7 + s[5].toNat + s[6].toNat ≤ s.size) :
    Calls Try.prog 72 #[.string s] w fun e w' => e = .returned (.tuple #[zeroV, .iface 123 (.int .i64 4)]) ∧ Ext w w' := by
  have h' : ¬ (s.size : Int) < 7 := by omega
  have hp : 0 < s.size := by omega
  have hp5 : (5 : Int) < s.size := by omega
  have hp6 : (6 : Int) < s.size := by omega
  have ix : ∀ W : World, (Instr.index 9 (.string s) (.int .i64 0)).run Try.prog W = .ok (.int .u8 77) W := fun W => by
    simp [go_sem, Try.underlying9, hp, h]
  have ix5 : ∀ W : World, (Instr.index 9 (.string s) (.int .i64 5)).run Try.prog W = .ok (.int .u8 (s[5].toNat : Int)) W := fun W => by
    simp [go_sem, Try.underlying9, hp5]
  have ix6 : ∀ W : World, (Instr.index 9 (.string s) (.int .i64 6)).run Try.prog W = .ok (.int .u8 (s[6].toNat : Int)) W := fun W => by
    simp [go_sem, Try.underlying9, hp6]
  have l5 := s[5].toNat_lt
  have l6 := s[6].toNat_lt
  generalize s[5].toNat = x5 at *
  generalize s[6].toNat = x6 at *
  have hf' : (s.size : Int) < 7 + (x5 : Int) + (x6 : Int) := by omega
  clear h
  go_enter Try.func72, Try.ntmps72
  go_wp2
  refine bodyPost_ret (v := .tuple #[zeroV, .iface 123 (.int .i64 4)]) (by simp [results, go_sem, zeroV]) rfl ⟨rfl, ?_⟩
  exact (Ext.refl w).alloc _

theorem parseM_any (s : ByteArray) (w : World) (hs : s.size ≤ 100) :
    Calls Try.prog 72 #[.string s] w fun e w' => PEnd w w' e (parseB s.data.toList) := by
  have hl : s.data.toList.length = s.size := (Lib.size_eq s).symm
  by_cases h7 : 7 ≤ s.size
  · by_cases h0 : s[0].toNat = 77
    · by_cases hf : 7 + s[5].toNat + s[6].toNat ≤ s.size
      · have h0' : s[0] = 77 := by
          apply UInt8.toNat_inj.1; rw [h0]; rfl
        refine (parseM_in s w s[1] s[2] s[3] s[4] s[5] s[6] hs h7 h0' rfl rfl rfl rfl rfl rfl hf).mono ?_
        have hr : rawM s.data.toList = ⟨(s[1].toNat : Int) + 256 * (s[2].toNat : Int) + 65536 * (s[3].toNat : Int), (s[4].toNat : Int), numsOf (s.extract 7 (7 + s[5].toNat)).data.toList, numsOf (s.extract (7 + s[5].toNat) (7 + s[5].toNat + s[6].toNat)).data.toList⟩ := by
          unfold rawM
          rw [byteL_get s 1 (by omega), byteL_get s 2 (by omega), byteL_get s 3 (by omega), byteL_get s 4 (by omega), byteL_get s 5 (by omega), byteL_get s 6 (by omega), Lib.extract_data, Lib.extract_data]
          rw [show 7 + s[5].toNat - 7 = s[5].toNat by omega, show 7 + s[5].toNat + s[6].toNat - (7 + s[5].toNat) = s[6].toNat by omega]
          rfl
        have hc : 7 ≤ s.data.toList.length ∧ byteL s.data.toList 0 = 77 ∧ 7 + byteL s.data.toList 5 + byteL s.data.toList 6 ≤ s.data.toList.length := by
          rw [hl, byteL_get s 0 (by omega), byteL_get s 5 (by omega), byteL_get s 6 (by omega)]
          exact ⟨h7, h0, hf⟩
        rintro e w' (⟨h, a1, c1, a2, c2, rfl, q1, q2, hx⟩ | ⟨h, rfl, hx⟩)
        · refine .inl ⟨rawM s.data.toList, _, ?_, rfl, ?_, hx⟩
          · unfold parseB; rw [if_pos ⟨hc.1, hc.2.1, hc.2.2, by unfold manFault; rw [hr]; exact h⟩]
          · rw [hr]; exact ⟨a1, c1, a2, c2, rfl, q1, q2⟩
        · refine .inr ⟨?_, rfl, hx⟩
          unfold parseB; rw [if_neg (fun k => h (by have := k.2.2.2; unfold manFault at this; rw [hr] at this; exact this))]
      · refine (parseM_far s w h7 (by omega) h0 hf).mono ?_
        rintro e w' ⟨rfl, hx⟩
        refine .inr ⟨?_, rfl, hx⟩
        unfold parseB; rw [if_neg (fun k => hf (by have := k.2.2.1; rw [hl, byteL_get s 5 (by omega), byteL_get s 6 (by omega)] at this; exact this))]
    · refine (parseM_mark s w h7 h0).mono ?_
      rintro e w' ⟨rfl, hx⟩
      refine .inr ⟨?_, rfl, hx⟩
      unfold parseB; rw [if_neg (fun k => h0 (by have := k.2.1; rw [byteL_get s 0 (by omega)] at this; exact this))]
  · refine (parseM_short s w (by omega)).mono ?_
    rintro e w' ⟨rfl, hx⟩
    refine .inr ⟨?_, rfl, hx⟩
    unfold parseB; rw [if_neg (fun k => h7 (by have := k.1; omega))]
end Go.Proofs.Ytpldeejagomfjaa
