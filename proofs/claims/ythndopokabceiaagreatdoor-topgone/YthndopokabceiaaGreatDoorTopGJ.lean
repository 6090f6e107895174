/- TopG. -/
import Derived.Test.YthndopokabceiaaGreatDoorTopKJ

/- TopGone. -/
namespace Go.Proofs.YthndopokabceiaaGreatDoor
open Go.RowKit Go.WideShapes

/-- A key is taken away. -/
def goneE (k : ByteArray) : Ent := ⟨k, ⟨#[]⟩, true⟩
theorem gone_ok {x : Ent} {r : List Ent} (hl : ∀ e ∈ x :: r, e.gone = false) (hf : faultE x = 0) (hn : (x :: r).length ≤ 40) : writeF (x :: r) [goneE x.key] = 0 ∧ afterE (x :: r) [goneE x.key] = r := by
  have hp : putsE (x :: r) [goneE x.key] = goneE x.key :: r := by
    show putE (x :: r) (goneE x.key) = _
    unfold putE
    rw [if_neg (show ¬ Lt x.key (goneE x.key).key from Lt.irrefl _), if_pos (show x.key = (goneE x.key).key from rfl)]
  have ha : afterE (x :: r) [goneE x.key] = r := by
    unfold afterE
    rw [hp]
    unfold liveE
    rw [List.filter_cons_of_neg (by simp [goneE])]
    exact List.filter_eq_self.2 fun e he => by simp [hl e (List.mem_cons_of_mem _ he)]
  refine ⟨?_, ha⟩
  have hx := hf
  unfold faultE faultB at hx
  have hg : faultE (goneE x.key) = 0 := by
    unfold faultE faultB goneE
    split at hx
    · simp at hx
    · rename_i h1
      split at hx
      · simp at hx
      · rename_i h2
        have e0 : (⟨#[]⟩ : ByteArray).toList = [] := by kernel_rfl
        have e1 : ¬ 16 < (⟨#[]⟩ : ByteArray).size := by decide
        rw [if_neg (fun h => h1 (by rcases h with h | h; exact .inl h; exact absurd e0 h.2)), if_neg (fun h => h2 (by rcases h with h | h; exact .inl h; exact absurd h e1))]
  have hk := (fault_zero hf).1
  have he : (encT [goneE x.key]).length = 4 + x.key.size := by
    unfold encT encE goneE
    simp
    omega
  unfold writeF
  rw [if_neg (by simp), if_neg, if_neg]
  · rw [ha]; simp at hn ⊢; omega
  · unfold bytesT faultsE faultsE
    rw [if_pos hg]
    simp
    rw [if_neg (by omega)]
/-- With no rows, and nothing that isn't put together, there is no table. -/
theorem no_old {n : Nat} {M : CM} {m : Man} {a : Nat} {O : List Tb} (h : Inv n M m a [] [] O) (hr : rowsE [] [] O = []) : O = [] := by
  cases O with
  | nil => rfl
  | cons y O =>
    exfalso
    have hne : y.es ≠ [] := by
      intro e
      have := (h.told y (by simp)).ok
      rw [e] at this
      simp [tabF] at this
    obtain ⟨e, es, hes⟩ := List.exists_cons_of_ne_nil hne
    have hm : e ∈ (tabsE (y :: O)).flatten := List.mem_flatten.2 ⟨y.es, by simp [tabsE], by rw [hes]; simp⟩
    have h1 := getE_of_mem h.ris hm
    have h2 := getE_rows [] [] (y :: O) e.key
    rw [hr, getE_nil, getE_all] at h2
    · have h3 : ([] :: (tabsE [] ++ tabsE (y :: O))).flatten = (tabsE (y :: O)).flatten := by simp [tabsE]
      rw [h3, h1] at h2
      simp [liveO, h.live e hm] at h2
    · intro l hl
      rcases List.mem_cons.1 hl with rfl | hl
      · exact Ris.nil
      · rcases List.mem_append.1 hl with hl | hl
        · simp [tabsE] at hl
        · obtain ⟨z, hz, rfl⟩ := List.mem_map.1 hl
          exact tabF_ris (h.told z hz).ok
/-- A store with nothing at hand. -/
structure UpN (n : Nat) (w : World) (S : List Nat) (sb cb : Nat) (m : Man) (k : Nat) (R : List Ent) : Prop where
  ex : ∃ M a x N O, StoAt w S sb cb M m a x ∧ Inv n M m a (x.ns.map Nd.e) N O ∧ rowsE (x.ns.map Nd.e) N O = R ∧ M.left = -1 ∧ wkN M.wk ≤ k ∧ N.length ≤ 2 ∧ x.ns.map Nd.e = []
theorem flushN (w : World) (n k : Nat) (R : List Ent) (hn : n ≤ 80000) : Hid (∀ W S sb cb m, Ext w W → (∀ b ∈ S, w.heap.size ≤ b) → Up n W S sb cb m k R → Calls Tryz.prog 28 #[.pointer (some ⟨sb, 0, none⟩)] W fun e w' => e = .returned .nilIface ∧ ∃ S' m', UpN (n + 9) w' S' sb cb m' k R ∧ Ext w w' ∧ ∀ b ∈ S', w.heap.size ≤ b) := fun W S sb cb m hx hS h => by
  obtain ⟨M, a, x, N, O, h1, h2, h3, h4, h5⟩ := h.ex
  have := flush_any n W S sb cb M m a x N O h1 h2 (by omega) hn
  rw [h3] at this
  refine this.mono fun _ w' hO => ?_
  have hz := hx.size
  cases hO with
  | ok M' m' a' x' S' N' O' he hs hi hr hl' hq hw hk' hS' hQ =>
    exact ⟨he, S', m', ⟨M', a', x', N', O', hs, hi, hr, by rw [hl' (by omega)]; exact h4, by rw [hw]; exact h5.1, hQ.1, hQ.2.1⟩, Kp.ext hx hk' hS, fun b hb => by rcases hS' b hb with h' | h'; exact hS b h'; omega⟩
  | fell M' he hl' => exact absurd (show M.left < 0 by omega) hl'
theorem compactN (w : World) (n k : Nat) (hn : n ≤ 80000) : Hid (∀ W S sb cb m, Ext w W → (∀ b ∈ S, w.heap.size ≤ b) → UpN n W S sb cb m k [] → Calls Tryz.prog 29 #[.pointer (some ⟨sb, 0, none⟩)] W fun e w' => e = .returned .nilIface ∧ ∃ S' m', Up (n + 9) w' S' sb cb m' k [] ∧ m'.nw = [] ∧ m'.od = [] ∧ Ext w w') := fun W S sb cb m hx hS h => by
  obtain ⟨M, a, x, N, O, h1, h2, h3, h4, h5, h6, h7⟩ := h.ex
  have := compact_any n W S sb cb M m a x N O h1 h2 (by omega) (by omega)
  rw [h3] at this
  refine this.mono fun _ w' hO => ?_
  have hO' := hO.le (show n + 3 ≤ n + 9 by omega)
  cases hO' with
  | ok M' m' a' x' S' N' O' he hs hi hr hl' hq hw hk' hS' hQ =>
    obtain ⟨q1, q2, _⟩ := hQ
    have e1 : m'.nw = [] := by rw [hi.nw, q1]; rfl
    have e2 : m'.od = [] := by
      have hi' := hi
      have hr' := hr
      rw [q2, h7, q1] at hi' hr'
      rw [hi.od, no_old hi' hr']; rfl
    exact ⟨he, S', m', ⟨M', a', x', N', O', hs, hi, hr, by rw [hl' (by omega)]; exact h4, by rw [hw]; exact h5, by rw [q1]; simp⟩, e1, e2, Kp.ext hx hk' hS⟩
  | fell M' he hl' => exact absurd (show M.left < 0 by omega) hl'
/-- A row after the other is taken away. -/
structure GonAt (w wr : World) (sb cb n k : Nat) (ro : Option Addr) (L R : List Ent) : Prop where
  ex : ∃ S m, Up n wr S sb cb m k R ∧ Aside2 wr S ro L ∧ Ext w wr ∧ ∀ b ∈ S, w.heap.size ≤ b
theorem GonAt.step {w wr : World} {sb cb n k : Nat} {ro : Option Addr} {L : List Ent} {x : Ent} {r : List Ent} (h : GonAt w wr sb cb n k ro L (x :: r)) (hn : n ≤ 80000) :
    Calls Tryz.prog 26 #[.pointer (some ⟨sb, 0, none⟩), .slice (some ⟨wr.heap.size, 0, none⟩) 1 1] (wr.alloc (.cells #[.string x.key, .string ⟨#[]⟩, .bool true] 49)) fun e w' => e = .returned .nilIface ∧ GonAt w w' sb cb (n + 9) k ro L r := by
  have hx' : Ext wr (wr.alloc (.cells #[.string x.key, .string ⟨#[]⟩, .bool true] 49)) := (Ext.refl _).alloc _
  obtain ⟨S, m, h1, h2, h3, h4⟩ := h.ex
  obtain ⟨p1, p2, p3⟩ := h1.plain
  obtain ⟨g1, g2⟩ := gone_ok p2 (p3 x (by simp)) h1.few
  have hlt := h1.lt
  have hat : EntsAt (wr.alloc (.cells #[.string x.key, .string ⟨#[]⟩, .bool true] 49)) (some ⟨wr.heap.size, 0, none⟩) [goneE x.key] := fun _ => by
    refine ⟨wr.heap.size, 0, rfl, fun i e he => ?_⟩
    have hb : Blk (wr.alloc (.cells #[.string x.key, .string ⟨#[]⟩, .bool true] 49)) wr.heap.size #[.string x.key, .string ⟨#[]⟩, .bool true] 49 := Blk.new _ _ _
    cases i with
    | zero => cases he; exact ⟨hb.cell 0, hb.cell 1, hb.cell 2⟩
    | succ i => simp at he
  refine ((h1.ext hx').write (cap := 1) (l := [goneE x.key]) hn ⟨hat, fun p e => ?_, fun p e hm => ?_⟩ g1).mono fun _ w' hh => ⟨hh.1, ?_⟩
  · cases e; simp
  · cases e; have := hlt _ hm; simp at this
  · have hU := hh.2
    rw [g2] at hU
    obtain ⟨S', m', q1, q2, q3⟩ := hU.ex
    have hz := h3.size
    have hz' := hx'.size
    exact ⟨S', m', q1, (h2.ext hx').kp q2 q3, Kp.ext (h3.trans hx') q2 h4, fun b hb => by rcases q3 b hb with h' | h'; exact h4 b h'; omega⟩
set_option maxRecDepth 20000 in
set_option maxHeartbeats 4000000 in
theorem topGone_any (ao : Option Addr) (cap : Nat) (acs : List ActE) (w : World) (hg : GlobT w) (hl : acs.length ≤ 9223372036854775807) (has : ActsAt w ao acs) :
    Calls Tryz.prog 10 #[.slice ao acs.length cap] w fun e w' => e = .returned (.bool true) ∧ Ext w w' := by
  have HW := worksH w hg
  cases hf : fillB acs with
  | false =>
    have HF := filledN ao cap acs w hl has hf
    clear has hf hg
    go_enter Tryz.func10, Tryz.ntmps10
    go_wp2_with (first
      | (go_at_call 35; refine HW.out.mono ?_; rintro e w1 ⟨rfl, hx1⟩)
      | (go_at_call 36; refine (HF.out _ hx1).mono ?_; rintro e w2 ⟨rfl, rfl⟩))
    go_ret
    exact ⟨rfl, hx1⟩
  | true =>
    have HF := filledY ao cap acs w hg hl has hf
    generalize weakN acs = k at *
    generalize fillR acs = R at *
    have HR := rowsH w 800 k R
    have HFL : Hid (∀ n W S sb cb m, n ≤ 70000 → Ext w W → (∀ b ∈ S, w.heap.size ≤ b) → Up n W S sb cb m k [] → Calls Tryz.prog 28 #[.pointer (some ⟨sb, 0, none⟩)] W fun e w' => e = .returned .nilIface ∧ ∃ S' m', UpN (n + 9) w' S' sb cb m' k [] ∧ Ext w w' ∧ ∀ b ∈ S', w.heap.size ≤ b) := fun n W S sb cb m hn => (flushN w n k [] (by omega)).out W S sb cb m
    have HCO : Hid (∀ n W S sb cb m, n ≤ 70000 → Ext w W → (∀ b ∈ S, w.heap.size ≤ b) → UpN n W S sb cb m k [] → Calls Tryz.prog 29 #[.pointer (some ⟨sb, 0, none⟩)] W fun e w' => e = .returned .nilIface ∧ ∃ S' m', Up (n + 9) w' S' sb cb m' k [] ∧ m'.nw = [] ∧ m'.od = [] ∧ Ext w w') := fun n W S sb cb m hn => (compactN w n k (by omega)).out W S sb cb m
    have HM : Hid (∀ n W S sb cb m, Ext w W → Up n W S sb cb m k [] → m.nw = [] → m.od = [] → Calls Tryz.prog 41 #[.pointer (some ⟨sb, 0, none⟩)] W fun e w' => ∃ a1 c1 a2 c2, e = .returned (.agg #[.int .i64 m.ep, .int .i64 m.lg, .slice a1 0 c1, .slice a2 0 c2]) ∧ Up n w' S sb cb m k [] ∧ Ext w w') := fun n W S sb cb m hx hU e1 e2 => ((manH w n k []).out W S sb cb m hx hU).mono fun _ _ hh => by
      obtain ⟨a1, c1, a2, c2, h1, h2, h3, h4⟩ := hh
      rw [e1, e2] at h1
      exact ⟨a1, c1, a2, c2, h1, hU.ext h3, h4⟩
    have HR2 : Hid (∀ n W S sb cb m, Ext w W → Up n W S sb cb m k [] → Calls Tryz.prog 38 #[.pointer (some ⟨sb, 0, none⟩)] W fun e w' => ∃ ro rc, e = .returned (.slice ro 0 rc) ∧ Ext W w' ∧ Ext w w') := fun n W S sb cb m hx hU => ((rowsH w n k []).out W S sb cb m hx hU).mono fun _ _ hh => by
      obtain ⟨ro, rc, h1, _, h3, h4⟩ := hh
      exact ⟨ro, rc, h1, h3, h4⟩
    clear has hf hg
    go_enter Tryz.func10, Tryz.ntmps10
    go_wp2_with (first
      | (go_at_call 35; refine HW.out.mono ?_; rintro e w1 ⟨rfl, hx1⟩)
      | (go_at_call 36; refine (HF.out _ hx1).mono ?_; rintro e w2 ⟨cb, sb, S, m, rfl, hU2, hx2, hS2⟩)
      | (go_at_call 38; refine (HR.out _ _ _ _ _ hx2 hU2).mono ?_; rintro e w3 ⟨ro3, rc3, rfl, hR3, hx3, hX3⟩))
    have hfew := hU2.few
    have HG3 : Hid (GonAt w w3 sb cb (800 + 9 * 0) k ro3 R (R.drop 0)) := ⟨S, m, hU2.ext hx3, hR3, hX3, hS2⟩
    clear hU2 hR3 hx3 hX3 hS2 hx2 hx1 HF HW HR
    go_loopw [7] (fun i wr => ∃ j : Nat, j ≤ R.length ∧ i = .int .i64 j ∧ GonAt w wr sb cb (800 + 9 * j) k ro3 R (R.drop j)) (fun i _ => R.length - (intOf i).toNat)
    case atStart => exact ⟨0, Nat.zero_le _, rfl, HG3.out⟩
    case round =>
      clear HG3
      obtain ⟨j, hj, rfl, hG⟩ := hrel
      by_cases hlt : j < R.length
      · obtain ⟨eb, eo, ek, ev, eg, rfl, he, g1, g2, g3⟩ := (show EntsAt wr ro3 R by obtain ⟨_, _, _, hA, _⟩ := hG.ex; exact hA.at_).get hlt
        have hd : R.drop j = ⟨ek, ev, eg⟩ :: R.drop (j + 1) := by
          rw [List.drop_eq_getElem_cons hlt]
          rw [List.getElem?_eq_getElem hlt] at he
          rw [Option.some.inj he]
        have HC : Hid (Calls Tryz.prog 26 #[.pointer (some ⟨sb, 0, none⟩), .slice (some ⟨wr.heap.size, 0, none⟩) 1 1] (wr.alloc (.cells #[.string ek, .string ⟨#[]⟩, .bool true] 49)) fun e w' => e = .returned .nilIface ∧ GonAt w w' sb cb (800 + 9 * j + 9) k (some ⟨eb, eo, none⟩) R (R.drop (j + 1))) := by
          rw [hd] at hG
          exact hG.step (by omega)
        clear hG he hd g2 g3
        go_wp2_with (go_at_call 26; refine HC.out.mono ?_; rintro e w4 ⟨rfl, hG4⟩)
        go_roundw
        case rel => exact ⟨j + 1, by omega, by go_num, hG4⟩
        case measure => simp [intOf]; omega
      · rw [List.drop_eq_nil_of_le (by omega)] at hG
        obtain ⟨S, m, hU, _, hxr, hS⟩ := hG.ex
        have hnn : 800 + 9 * j ≤ 60000 := by omega
        have hnn' : 800 + 9 * j + 9 ≤ 70000 := by omega
        clear hG
        generalize 800 + 9 * j = n at *
        go_wp2_with (first
          | (go_at_call 28; refine (HFL.out n _ _ _ _ _ (by omega) hxr hS hU).mono ?_; rintro e w4 ⟨rfl, S4, m4, hU4, hx4, hS4⟩)
          | (go_at_call 29; refine (HCO.out _ _ _ _ _ _ hnn' hx4 hS4 hU4).mono ?_; rintro e w5 ⟨rfl, S5, m5, hU5, e51, e52, hx5⟩)
          | (go_at_call 41; refine (HM.out _ _ _ _ _ _ hx5 hU5 e51 e52).mono ?_; rintro e w6 ⟨a1, c1, a2, c2, rfl, hU6, hx6⟩; have hx7 := hx6.alloc (.cells #[.int .i64 m5.ep, .int .i64 m5.lg, .slice a1 0 c1, .slice a2 0 c2] 65); have hU7 := hU6.ext ((Ext.refl _).alloc (.cells #[.int .i64 m5.ep, .int .i64 m5.lg, .slice a1 0 c1, .slice a2 0 c2] 65)); have hB7 := Blk.new w6 #[.int .i64 m5.ep, .int .i64 m5.lg, .slice a1 0 c1, .slice a2 0 c2] 65)
          | (go_at_call 38; refine (HR2.out _ _ _ _ _ _ hx7 hU7).mono ?_; rintro e w8 ⟨ro8, rc8, rfl, hx8, hX8⟩; have k2 : w8.cell? ⟨w6.heap.size, 2, none⟩ = some (.slice a1 0 c1) := (hB7.ext hx8).cell 2; have k3 : w8.cell? ⟨w6.heap.size, 3, none⟩ = some (.slice a2 0 c2) := (hB7.ext hx8).cell 3))
        go_ret
        exact ⟨rfl, hX8⟩
end Go.Proofs.YthndopokabceiaaGreatDoor
