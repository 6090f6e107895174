/- Tables: a page's entries. -/
import Derived.Test.YtjeinblcpejpnaaEntS
import Derived.Test.YtjeinblcpejpnaaChpJ
namespace Go.Proofs.Ytjeinblcpejpnaa
open Go.RowKit Go.WideShapes

/-- What a text has of entries, and what is wrong with it. -/
def entsT (s : ByteArray) : List Ent × Int := match parseT s with
  | none => ([], 4)
  | some es => (es, 0)
/-- What a page has of entries, and what is wrong with it. -/
def pageE (M : CM) (b p : Int) : List Ent × Int := if (readR M b p).2 = 0 then entsT (txtL (readR M b p).1) else ([], (readR M b p).2)
theorem parse_ents (s : ByteArray) (w : World) (hs : s.size ≤ 281474976710656) :
    Calls Try.prog 21 #[.string s] w fun e w' => ∃ ao c, e = .returned (.tuple #[.slice ao (entsT s).1.length c, errV (entsT s).2]) ∧ EntsAt w' ao (entsT s).1 ∧ Ext w w' := by
  refine (parse_any s w hs).mono ?_
  rintro e w' (⟨h1, rfl, hx⟩ | ⟨es, v, h1, rfl, hown, hx⟩)
  · have h2 : entsT s = ([], 4) := by unfold entsT; rw [h1]
    rw [h2]; exact ⟨none, 0, rfl, fun h => absurd rfl h, hx⟩
  · have h2 : entsT s = (es, 0) := by unfold entsT; rw [h1]
    obtain ⟨ao, cap, rfl, he⟩ := ents_of_row hown
    rw [h2]; exact ⟨ao, cap, rfl, he, hx⟩
theorem readR_len {w : World} {cb : Nat} {M : CM} (h : ChipAt w cb M) (b p : Int) : (readR M b p).1.length ≤ 64 := by
  unfold readR
  split
  · simp
  · split
    · rename_i hc
      split
      · simp
      · rename_i d hg
        obtain ⟨⟨cs, fv, _, h2, _⟩, _⟩ := h
        have := (h2.blk b.toNat (by omega)).d64 p.toNat d hg
        simp only; omega
      · simp
    · simp
set_option maxRecDepth 20000 in
set_option maxHeartbeats 1000000 in
theorem readEnts_any (cb : Nat) (b p : Int) (M : CM) (w : World) (h : ChipAt w cb M) :
    Calls Try.prog 104 #[.pointer (some ⟨cb, 0, none⟩), .int .i64 b, .int .i64 p] w fun e w' => ∃ ao c, e = .returned (.tuple #[.slice ao (pageE M b p).1.length c, errV (pageE M b p).2]) ∧ EntsAt w' ao (pageE M b p).1 ∧ Ext w w' := by
  have hln := readR_len h b p
  have HR := read_any cb b p M w h
  by_cases hz : (readR M b p).2 = 0
  · have HE : Hid (pageE M b p = entsT (txtL (readR M b p).1)) := by unfold pageE Hid; rw [if_pos hz]
    have HRR : Hid (Calls Try.prog 37 #[.pointer (some ⟨cb, 0, none⟩), .int .i64 b, .int .i64 p] w fun e w' => e = .returned (.tuple #[.string (txtL (readR M b p).1), .nilIface]) ∧ w' = w) := by
      unfold errV at HR; rw [if_pos hz] at HR; exact HR
    have HP : Hid (∀ W, Calls Try.prog 21 #[.string (txtL (readR M b p).1)] W fun e w' => ∃ ao c, e = .returned (.tuple #[.slice ao (entsT (txtL (readR M b p).1)).1.length c, errV (entsT (txtL (readR M b p).1)).2]) ∧ EntsAt w' ao (entsT (txtL (readR M b p).1)).1 ∧ Ext W w') := fun W => parse_ents _ W (by rw [Lib.size_eq]; simp [txtL]; omega)
    clear HR hz h hln
    generalize txtL (readR M b p).1 = T at *
    rw [HE.out]
    generalize (entsT T).1 = es at *
    generalize errV (entsT T).2 = ev at *
    go_enter Try.func104, Try.ntmps104
    go_wp2_with (first
      | (go_at_call 37; refine HRR.out.mono ?_; rintro e w' ⟨rfl, rfl⟩)
      | (go_at_call 21; refine (HP.out _).mono ?_; rintro e w2 ⟨ao, c, rfl, he, hx⟩))
    go_ret2
    exact ⟨ao, c, rfl, he, hx⟩
  · have HE : Hid (pageE M b p = ([], (readR M b p).2)) := by unfold pageE Hid; rw [if_neg hz]
    have HRR : Hid (Calls Try.prog 37 #[.pointer (some ⟨cb, 0, none⟩), .int .i64 b, .int .i64 p] w fun e w' => e = .returned (.tuple #[.string (txtL (readR M b p).1), .iface 128 (.int .i64 (readR M b p).2)]) ∧ w' = w) := by
      unfold errV at HR; rw [if_neg hz] at HR; exact HR
    have HV : Hid (errV (readR M b p).2 = .iface 128 (.int .i64 (readR M b p).2)) := by unfold errV Hid; rw [if_neg hz]
    clear HR hz h hln
    rw [HE.out, HV.out]
    generalize txtL (readR M b p).1 = T at *
    generalize (readR M b p).2 = f at *
    go_enter Try.func104, Try.ntmps104
    go_wp2_with (go_at_call 37; refine HRR.out.mono ?_; rintro e w' ⟨rfl, rfl⟩)
    go_ret2
    exact ⟨none, 0, rfl, fun h => absurd rfl h, Ext.refl _⟩
end Go.Proofs.Ytjeinblcpejpnaa
