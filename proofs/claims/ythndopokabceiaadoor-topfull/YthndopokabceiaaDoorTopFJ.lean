/- TopF. -/
import Derived.Test.YthndopokabceiaaDoorValAJ

/- TopFull. -/
namespace Go.Proofs.YthndopokabceiaaDoor
open Go.RowKit Go.WideShapes

theorem put_len : ∀ (R : List Ent) (e : Ent), Ris R → (∃ x ∈ R, x.key = e.key) → (putE R e).length = R.length
  | [], e, _, h => by obtain ⟨x, hx, _⟩ := h; simp at hx
  | x :: r, e, hr, h => by
    unfold putE
    split
    · rename_i hlt
      have : ∃ y ∈ r, y.key = e.key := by
        obtain ⟨y, hy, hk⟩ := h
        rcases List.mem_cons.1 hy with rfl | hy
        · exact absurd hk hlt.ne
        · exact ⟨y, hy, hk⟩
      simp [put_len r e hr.tail this]
    · rename_i hlt
      split
      · simp
      · rename_i hne
        exfalso
        obtain ⟨y, hy, hk⟩ := h
        rcases List.mem_cons.1 hy with rfl | hy
        · exact hne hk
        · have := hr.head y hy
          rw [hk] at this
          exact hlt this
/-- What is there is written anew. -/
theorem anew_ok {R : List Ent} (hr : Ris R) (hl : ∀ e ∈ R, e.gone = false) (hn : R.length ≤ 40) {x : Ent} (hx : x ∈ R) (hf : faultE x = 0) (v : ByteArray) (hv : v.size ≤ 16) : writeF R [⟨x.key, v, false⟩] = 0 ∧ (wrR R [⟨x.key, v, false⟩]).length = R.length ∧ getE (wrR R [⟨x.key, v, false⟩]) x.key = some ⟨x.key, v, false⟩ := by
  have hp : putsE R [⟨x.key, v, false⟩] = putE R ⟨x.key, v, false⟩ := rfl
  have hlen : (putE R ⟨x.key, v, false⟩).length = R.length := put_len R _ hr ⟨x, hx, rfl⟩
  have ha : afterE R [⟨x.key, v, false⟩] = putE R ⟨x.key, v, false⟩ := by
    unfold afterE
    rw [hp]
    unfold liveE
    refine List.filter_eq_self.2 fun e he => ?_
    rcases putE_mem he with rfl | h
    · rfl
    · simp [hl e h]
  have hg : faultE ⟨x.key, v, false⟩ = 0 := by
    have hx' := hf
    unfold faultE faultB at hx'
    unfold faultE faultB
    split at hx'
    · simp at hx'
    · rename_i h1
      split at hx'
      · simp at hx'
      · rename_i h2
        rw [if_neg (fun h => h1 (by rcases h with h | h; exact .inl h; exact absurd h.1 (by simp))), if_neg (fun h => h2 (by rcases h with h | h; exact .inl h; exact absurd h (by dsimp only; omega)))]
  have hk := (fault_zero hf).1
  have he : (encT [⟨x.key, v, false⟩]).length = 4 + x.key.size + v.size := by
    unfold encT encE
    simp
    omega
  have hw : writeF R [⟨x.key, v, false⟩] = 0 := by
    unfold writeF
    rw [if_neg (by simp), if_neg, if_neg]
    · rw [ha, hlen]; omega
    · unfold bytesT faultsE faultsE
      rw [if_pos hg]
      simp
      rw [if_neg (by omega)]
  refine ⟨hw, ?_, ?_⟩
  · unfold wrR
    rw [if_pos hw, ha, hlen]
  · unfold wrR
    rw [if_pos hw, ha, getE_put hr]
    simp
set_option maxRecDepth 20000 in
set_option maxHeartbeats 4000000 in
theorem topFull_any (ao : Option Addr) (cap : Nat) (acs : List ActE) (val : ByteArray) (hvs : val.size ≤ 9223372036854775807) (w : World) (hg : GlobT w) (hl : acs.length ≤ 9223372036854775807) (has : ActsAt w ao acs) :
    Calls Tryd.prog 7 #[.slice ao acs.length cap, .string val] w fun e w' => e = .returned (.bool true) ∧ Ext w w' := by
  have HW := worksH w hg
  cases hf : fillB acs with
  | false =>
    have HF := filledN ao cap acs w hl has hf
    clear has hf hg
    go_enter Tryd.func7, Tryd.ntmps7
    go_wp2_with (first
      | (go_at_call 12; refine HW.out.mono ?_; rintro e w1 ⟨rfl, hx1⟩)
      | (go_at_call 13; refine (HF.out _ hx1).mono ?_; rintro e w2 ⟨rfl, rfl⟩))
    go_ret
    exact ⟨rfl, hx1⟩
  | true =>
    have HF := filledY ao cap acs w hg hl has hf
    generalize weakN acs = k at *
    generalize fillR acs = R at *
    have HR := rowsH w 800 k R
    clear has hf hg
    by_cases h16 : (16 : Int) < (val.size : Int)
    · go_enter Tryd.func7, Tryd.ntmps7
      go_wp2_with (first
        | (go_at_call 12; refine HW.out.mono ?_; rintro e w1 ⟨rfl, hx1⟩)
        | (go_at_call 13; refine (HF.out _ hx1).mono ?_; rintro e w2 ⟨cb, sb, S, m, rfl, hU2, hx2, hS2⟩))
      go_ret
      exact ⟨rfl, hx2⟩
    · have HRD : Hid (∀ W S sb cb m, Up 800 W S sb cb m k R → R.length ≤ 40) := fun W S sb cb m h => h.few
      rcases Nat.eq_zero_or_pos R.length with h0 | h0
      · rw [h0] at HR
        go_enter Tryd.func7, Tryd.ntmps7
        go_wp2_with (first
          | (go_at_call 12; refine HW.out.mono ?_; rintro e w1 ⟨rfl, hx1⟩)
          | (go_at_call 13; refine (HF.out _ hx1).mono ?_; rintro e w2 ⟨cb, sb, S, m, rfl, hU2, hx2, hS2⟩)
          | (go_at_call 19; refine (HR.out _ _ _ _ _ hx2 hU2).mono ?_; rintro e w3 ⟨ro3, rc3, rfl, hR3, hx3, hX3⟩))
        go_ret
        exact ⟨rfl, hX3⟩
      · obtain ⟨p, hp⟩ : ∃ p, R.length = p + 1 := ⟨R.length - 1, by omega⟩
        by_cases hfew : R.length ≤ 40
        case neg =>
          go_enter Tryd.func7, Tryd.ntmps7
          go_upto_region 7 with (first
            | (go_at_call 12; refine HW.out.mono ?_; rintro e w1 ⟨rfl, hx1⟩)
            | (go_at_call 13; refine (HF.out _ hx1).mono ?_; rintro e w2 ⟨cb, sb, S, m, rfl, hU2, hx2, hS2⟩))
          exact absurd (HRD.out _ _ _ _ _ hU2) hfew
        obtain ⟨x, hx⟩ : ∃ x, R[p]? = some x := ⟨R[p], List.getElem?_eq_getElem (by omega)⟩
        have HX : Hid (∀ W S sb cb m, Up 800 W S sb cb m k R → writeF R [⟨x.key, val, false⟩] = 0 ∧ (wrR R [⟨x.key, val, false⟩]).length = R.length ∧ getE (wrR R [⟨x.key, val, false⟩]) x.key = some ⟨x.key, val, false⟩ ∧ x.key.size ≤ 8) := fun W S sb cb m h => by
          have hm := List.mem_of_getElem? hx
          obtain ⟨p1, p2, p3⟩ := h.plain
          obtain ⟨q1, q2, q3⟩ := anew_ok p1 p2 hfew hm (p3 x hm) val (by omega)
          exact ⟨q1, q2, q3, (fault_zero (p3 x hm)).1⟩
        have HEN : Hid (∀ W ro, EntsAt W ro R → ∃ b off, ro = some ⟨b, off, none⟩ ∧ W.cell? ⟨b, off + p * 3, none⟩ = some (.string x.key)) := fun W ro h => by
          obtain ⟨b, off, ek, ev, eg, e1, he, g1, _⟩ := h.get (show p < R.length by omega)
          rw [hx] at he
          cases he
          exact ⟨b, off, e1, g1⟩
        have HC : Hid (∀ W S sb cb m, Up 800 W S sb cb m k R → Ext w W → (∀ b ∈ S, w.heap.size ≤ b) → Calls Tryd.prog 15 #[.pointer (some ⟨sb, 0, none⟩), .slice (some ⟨W.heap.size, 0, none⟩) 1 1] (W.alloc (.cells #[.string x.key, .string val, .bool false] 34)) fun e w' => e = .returned .nilIface ∧ ∃ S' m', Up 809 w' S' sb cb m' k (wrR R [⟨x.key, val, false⟩]) ∧ Ext w w') := fun W S sb cb m hU hxW hS => by
          have hx' : Ext W (W.alloc (.cells #[.string x.key, .string val, .bool false] 34)) := (Ext.refl _).alloc _
          have hat : EntsAt (W.alloc (.cells #[.string x.key, .string val, .bool false] 34)) (some ⟨W.heap.size, 0, none⟩) [⟨x.key, val, false⟩] := fun _ => by
            refine ⟨W.heap.size, 0, rfl, fun i e he => ?_⟩
            have hb : Blk (W.alloc (.cells #[.string x.key, .string val, .bool false] 34)) W.heap.size #[.string x.key, .string val, .bool false] 34 := Blk.new _ _ _
            cases i with
            | zero => cases he; exact ⟨hb.cell 0, hb.cell 1, hb.cell 2⟩
            | succ i => simp at he
          have hlt := hU.lt
          have hw := (HX.out W S sb cb m hU).1
          refine ((hU.ext hx').wr (cap := 1) (l := [⟨x.key, val, false⟩]) (by omega) ⟨.inr ⟨hat, fun p e => ?_, fun p e hm => ?_⟩⟩).mono fun _ w' hh => ⟨?_, ?_⟩
          · cases e; simp
          · cases e; have := hlt _ hm; simp at this
          · rw [hh.1, hw]; rfl
          · obtain ⟨S', m', q1, q2, _⟩ := hh.2.far hS (hxW.trans hx')
            exact ⟨S', m', q1, q2⟩
        have HG : Hid (∀ W S sb cb m S' m' w0, Up 800 w0 S sb cb m k R → Up 809 W S' sb cb m' k (wrR R [⟨x.key, val, false⟩]) → Calls Tryd.prog 16 #[.pointer (some ⟨sb, 0, none⟩), .string x.key] W fun e w' => e = .returned (.tuple #[.string val, .bool true, .nilIface]) ∧ Ext W w') := fun W S sb cb m S' m' w0 h0 hU => by
          obtain ⟨_, _, q3, q4⟩ := HX.out _ _ _ _ _ h0
          have := hU.getV x.key (by omega)
          rw [q3] at this
          exact this
        have HR2 : Hid (∀ W S sb cb m S' m' w0, Up 800 w0 S sb cb m k R → Up 809 W S' sb cb m' k (wrR R [⟨x.key, val, false⟩]) → Ext w W → Calls Tryd.prog 19 #[.pointer (some ⟨sb, 0, none⟩)] W fun e w' => ∃ ro rc, e = .returned (.slice ro R.length rc) ∧ Ext w w') := fun W S sb cb m S' m' w0 h0 hU hxW => ((rowsH w 809 k _).out W S' sb cb m' hxW hU).mono fun _ _ hh => by
          obtain ⟨ro, rc, h1, _, _, h4⟩ := hh
          rw [(HX.out _ _ _ _ _ h0).2.1] at h1
          exact ⟨ro, rc, h1, h4⟩
        clear hx
        have hpi : ((p + 1 : Nat) : Int) - 1 = (p : Int) := by omega
        have hpi' : (p : Int) + 1 - 1 = (p : Int) := by omega
        generalize wrR R [⟨x.key, val, false⟩] = R2 at *
        generalize x.key = xk at *
        rw [hp] at HR HR2 hfew
        clear HX HRD
        go_enter Tryd.func7, Tryd.ntmps7
        go_wp2_with (first
          | (go_at_call 12; refine HW.out.mono ?_; rintro e w1 ⟨rfl, hx1⟩)
          | (go_at_call 13; refine (HF.out _ hx1).mono ?_; rintro e w2 ⟨cb, sb, S, m, rfl, hU2, hx2, hS2⟩)
          | (go_at_call 19; refine (HR2.out _ _ _ _ _ _ _ _ hU2 hU5 hX5).mono ?_; rintro e w6 ⟨ro6, rc6, rfl, hX6⟩)
          | (go_at_call 16; refine (HG.out _ _ _ _ _ _ _ _ hU2 hU4).mono ?_; rintro e w5 ⟨rfl, hx5⟩; have hU5 := hU4.ext hx5; have hX5 := hX4.trans hx5)
          | (go_at_call 15; refine (HC.out _ _ _ _ _ hU3 hX3 hS2).mono ?_; rintro e w4 ⟨rfl, S4, m4, hU4, hX4⟩)
          | (go_at_call 19; refine (HR.out _ _ _ _ _ hx2 hU2).mono ?_; rintro e w3 ⟨ro3, rc3, rfl, hR3, hx3, hX3⟩; obtain ⟨eb, eo, rfl, g1⟩ := HEN.out _ _ hR3.at_; have hU3 := hU2.ext hx3))
        go_ret
        exact ⟨rfl, hX6⟩
end Go.Proofs.YthndopokabceiaaDoor
