/- SrvD. -/
import Derived.Test.YtkibgflbidkalaaDoorSrvCJ
import Derived.Test.YtkibgflbidkalaaDoorChpJJ
import Derived.Test.YtkibgflbidkalaaDoorSmnBJ

/- What blocks are used for: Of. -/
namespace Go.Proofs.YtkibgflbidkalaaDoor
open Go.RowKit Go.WideShapes

theorem results_cellK {fn : Func} {p : Tmp} {ty : TypeId} (h : fn.results = #[.cell p ty]) (tmps : Array Value) (P : Program) (w : World) :
    (results fn tmps).run P w = ((asAddr (tmps.getD p undef)).run P w).andThen fun a w₁ => (loadVar ty a).run P w₁ := by
  simp only [results, h]
  simp [Sem.run_bind, Result.andThen]
/-- What the blocks are used for, behind the first j numbers of a list. -/
def putK (g : Nat → Int) (l : List Int) (v : Int) : Nat → Int := fun i => if (i : Int) ∈ l then v else g i
theorem putK_snoc (g : Nat → Int) (l : List Int) (v : Int) (z : Nat) : updK (putK g l v) z v = putK g (l ++ [(z : Int)]) v := by
  funext i
  unfold updK putK
  by_cases h : i = z
  · subst h; simp
  · have : ¬ (i : Int) = (z : Int) := by omega
    simp [h, this]
theorem putK_one (g : Nat → Int) (v : Int) (z : Nat) : updK g z v = putK g [(z : Int)] v := by
  funext i
  unfold updK putK
  by_cases h : i = z
  · subst h; simp
  · have : ¬ (i : Int) = (z : Int) := by omega
    simp [h, this]
theorem putK_take (g : Nat → Int) (l : List Int) (v : Int) (j z : Nat) (h : l[j]? = some (z : Int)) : updK (putK g (l.take j) v) z v = putK g (l.take (j + 1)) v := by
  rw [putK_snoc, List.take_add_one, h]; rfl
def kindsF (m : Man) (f : Nat → Bool) : Nat → Int := putK (putK (putK (unK f) [m.lg] 2) m.nw 3) m.od 4
/-- While the kinds are laid: the manifest that was handed out, the kinds, the result. -/
structure KndAt (w W : World) (mb : Nat) (cs : Array Value) (g : Nat → Int) (a1 a2 : Option Addr) (m : Man) : Prop where
  bm : Blk W mb cs 42
  bk : Blk W (w.heap.size + 1) (kC g) 27
  br : Blk W w.heap.size (kC (fun _ => 0)) 27
  n1 : NumsAt W a1 m.nw
  n2 : NumsAt W a2 m.od
  ext : Ext w W
theorem KndAt.put {w W : World} {mb : Nat} {cs : Array Value} {g : Nat → Int} {a1 a2 : Option Addr} {m : Man} (h : KndAt w W mb cs g a1 a2 m) (hp : (∀ p, a1 = some p → ¬ p.block = w.heap.size + 1) ∧ (∀ p, a2 = some p → ¬ p.block = w.heap.size + 1) ∧ ¬ mb = w.heap.size + 1) (z : Nat) (v : Int) :
    KndAt w (W.setCell ⟨w.heap.size + 1, z, none⟩ (.int .i64 v)) mb cs (updK g z v) a1 a2 m :=
  ⟨h.bm.other (a := ⟨w.heap.size + 1, z, none⟩) hp.2.2 _, by rw [← kC_set]; exact h.bk.set z _, h.br.other (by simp) _, h.n1.setX (p := ⟨w.heap.size + 1, z, none⟩) hp.1 _, h.n2.setX (p := ⟨w.heap.size + 1, z, none⟩) hp.2.1 _, h.ext.set (p := ⟨w.heap.size + 1, z, none⟩) (by simp) _⟩
theorem first_snoc (h : Nat → Int) (j : Nat) : updK (fun i => if i < j then h i else 0) j (h j) = fun i => if i < j + 1 then h i else 0 := by
  funext i
  unfold updK
  by_cases h1 : i = j
  · subst h1; simp
  · by_cases h2 : i < j
    · rw [if_neg h1]; dsimp only; rw [if_pos h2, if_pos (by omega)]
    · rw [if_neg h1]; dsimp only; rw [if_neg h2, if_neg (by omega)]
set_option maxRecDepth 20000 in
set_option maxHeartbeats 4000000 in
theorem survOf_any (n : Nat) (w : World) (S : List Nat) (sb cb : Nat) (M : CM) (m : Man) (a : Nat) (x : SMem) (N O : List Tb) (h : StoAt w S sb cb M m a x) (hI : Inv n M m a (x.ns.map Nd.e) N O) (hl1 : m.nw.length ≤ 100) (hl2 : m.od.length ≤ 100) :
    Calls Tryd.prog 5 #[.pointer (some ⟨cb, 0, none⟩), .pointer (some ⟨sb, 0, none⟩)] w fun e w' => e = .returned (.agg (kC (kindsF m M.bd))) ∧ Ext w w' := by
  have HU : Hid (∀ W (j : Nat), Ext w W → j < 24 → Calls Tryd.prog 20 #[.pointer (some ⟨cb, 0, none⟩), .int .i64 (j : Int)] W fun e w' => e = .returned (.int .i64 (unK M.bd j)) ∧ W = w') := fun W j hx hj => unused_any cb j M W hj (h.chip.ext hx)
  have HM : Hid (∀ W, Ext w W → Calls Tryd.prog 13 #[.pointer (some ⟨sb, 0, none⟩)] W fun e w' => MnfN W w' e m) := fun W hx => manifestN_any W S sb cb M m a x (h.ext hx) hl1 hl2
  have HN : Hid (∀ z ∈ m.lg :: (m.nw ++ m.od), 2 ≤ z ∧ z < 24) := (man_names hI.ok).1
  clear h hI
  generalize M.bd = f at *
  go_enter Tryd.func5, Tryd.ntmps5
  have HZ : Hid ((#[.int .i64 0, .int .i64 0, .int .i64 0, .int .i64 0, .int .i64 0, .int .i64 0, .int .i64 0, .int .i64 0, .int .i64 0, .int .i64 0, .int .i64 0, .int .i64 0, .int .i64 0, .int .i64 0, .int .i64 0, .int .i64 0, .int .i64 0, .int .i64 0, .int .i64 0, .int .i64 0, .int .i64 0, .int .i64 0, .int .i64 0, .int .i64 0] : Array Value) = kC (fun _ => 0)) := rfl
  go_upto_region 2 with fail
  rw [HZ.out]
  have HB0 : Hid (Blk ((w.alloc (.cells (kC (fun _ => 0)) 27)).alloc (.cells (kC (fun _ => 0)) 27)) (w.heap.size + 1) (kC (fun i => if i < 0 then unK f i else 0)) 27 ∧ Blk ((w.alloc (.cells (kC (fun _ => 0)) 27)).alloc (.cells (kC (fun _ => 0)) 27)) w.heap.size (kC (fun _ => 0)) 27 ∧ Ext w ((w.alloc (.cells (kC (fun _ => 0)) 27)).alloc (.cells (kC (fun _ => 0)) 27))) := ⟨Blk.new' _ _ _ (by simp), (Blk.new _ _ _).alloc _, ((Ext.refl w).alloc _).alloc _⟩
  clear HZ
  generalize (w.alloc (.cells (kC (fun _ => 0)) 27)).alloc (.cells (kC (fun _ => 0)) 27) = w1 at *
  go_wp2_with fail
  go_loopw [6, 12] (fun _ i wr => ∃ j : Nat, j ≤ 24 ∧ i = .int .i64 j ∧ Blk wr (w.heap.size + 1) (kC (fun i => if i < j then unK f i else 0)) 27 ∧ Blk wr w.heap.size (kC (fun _ => 0)) 27 ∧ Ext w wr) (fun _ i _ => 24 - (intOf i).toNat)
  case atStart => exact ⟨0, by omega, rfl, HB0.out.1, HB0.out.2.1, HB0.out.2.2⟩
  case round =>
    clear HB0
    obtain ⟨j, hj, rfl, hB, hB2, hxr⟩ := hrel
    by_cases hlt : j < 24
    · have h24 : (j : Int) < 24 := by omega
      have HC : Hid (Calls Tryd.prog 20 #[.pointer (some ⟨cb, 0, none⟩), .int .i64 (j : Int)] wr fun e w' => e = .returned (.int .i64 (unK f j)) ∧ wr = w') := HU.out wr j hxr hlt
      have b1 : wr.cell? ⟨w.heap.size + 1, j, none⟩ = some (.int .i64 (if j < j then unK f j else 0)) := by rw [hB.cell]; exact kC_get _ j hlt
      have z1 := hB.free j
      have HBB : Hid (Blk wr (w.heap.size + 1) (kC (fun i => if i < j then unK f i else 0)) 27 ∧ Blk wr w.heap.size (kC (fun _ => 0)) 27) := ⟨hB, hB2⟩
      clear HU HM hB hB2
      go_wp2_with (go_at_call 20; refine HC.out.mono ?_; rintro e w3 ⟨rfl, rfl⟩)
      go_roundw
      case rel => exact ⟨j + 1, by omega, by go_num, by rw [← first_snoc, ← kC_set]; exact HBB.out.1.set j _, HBB.out.2.other (by simp) _, hxr.set (p := ⟨w.heap.size + 1, j, none⟩) (by simp) _⟩
      case measure => simp [intOf]; omega
    · have hj24 : j = 24 := by omega
      subst hj24
      obtain ⟨g, hg⟩ : ∃ g : Nat, m.lg = (g : Int) := ⟨m.lg.toNat, by have := HN.out m.lg (by simp); omega⟩
      have hg24 : (g : Int) < 24 := by have := HN.out m.lg (by simp); omega
      have HBB : Hid (Blk wr (w.heap.size + 1) (kC (unK f)) 27 ∧ Blk wr w.heap.size (kC (fun _ => 0)) 27 ∧ Ext w wr) := ⟨hB, hB2, hxr⟩
      have HM1 : Hid (Calls Tryd.prog 13 #[.pointer (some ⟨sb, 0, none⟩)] wr fun e w' => MnfN wr w' e m) := HM.out wr hxr
      have hzr : w.heap.size + 1 < wr.heap.size := hB.lt
      clear HU HM hB hB2 hxr
      go_upto_region 8 with (go_at_call 13; refine HM1.out.mono ?_; rintro e w3 ⟨a1, c1, a2, c2, rfl, hN1, hN2, hx3, hp1, hp2⟩)
      have hz3 : wr.heap.size ≤ w3.heap.size := hx3.size
      have HW4 : Hid (KndAt w (w3.alloc (.cells #[.int .i64 m.ep, .int .i64 (g : Int), .slice a1 m.nw.length c1, .slice a2 m.od.length c2] 42)) w3.heap.size #[.int .i64 m.ep, .int .i64 (g : Int), .slice a1 m.nw.length c1, .slice a2 m.od.length c2] (unK f) a1 a2 m) := ⟨Blk.new _ _ _, (HBB.out.1.ext hx3).alloc _, (HBB.out.2.1.ext hx3).alloc _, hN1.ext ((Ext.refl w3).alloc _), hN2.ext ((Ext.refl w3).alloc _), (HBB.out.2.2.trans hx3).alloc _⟩
      have HP : Hid ((∀ p, a1 = some p → ¬ p.block = w.heap.size + 1) ∧ (∀ p, a2 = some p → ¬ p.block = w.heap.size + 1) ∧ ¬ w3.heap.size = w.heap.size + 1) := ⟨fun p e => by have := hp1 p e; omega, fun p e => by have := hp2 p e; omega, by omega⟩
      generalize w3.alloc (.cells #[.int .i64 m.ep, .int .i64 (g : Int), .slice a1 m.nw.length c1, .slice a2 m.od.length c2] 42) = w4 at *
      generalize w3.heap.size = mb at *
      have k0 : w4.cell? ⟨mb, 1, none⟩ = some (.int .i64 (g : Int)) := HW4.out.bm.cell 1
      have k1 : w4.cell? ⟨w.heap.size + 1, g, none⟩ = some (.int .i64 (unK f g)) := by rw [HW4.out.bk.cell]; exact kC_get _ g (by omega)
      have z1 := HW4.out.bk.free g
      clear HM1 HBB hN1 hN2 hx3 hp1 hp2 hz3 hzr
      have HW5 : Hid (KndAt w (w4.setCell ⟨w.heap.size + 1, g, none⟩ (.int .i64 2)) mb #[.int .i64 m.ep, .int .i64 (g : Int), .slice a1 m.nw.length c1, .slice a2 m.od.length c2] (putK (unK f) [m.lg] 2) a1 a2 m) := by rw [hg, ← putK_one]; exact HW4.out.put HP.out g 2
      clear HW4
      go_upto_region 9 with fail
      clear k1 z1 k0
      generalize w4.setCell ⟨w.heap.size + 1, g, none⟩ (.int .i64 2) = w5 at *
      obtain ⟨KF, HKF⟩ : ∃ KF, Hid (KF = kindsF m f) := ⟨_, rfl⟩
      have HK : Hid (KF = putK (putK (putK (unK f) [m.lg] 2) m.nw 3) m.od 4) := HKF.out
      generalize putK (unK f) [m.lg] 2 = G at *
      have k2 : w5.cell? ⟨mb, 2, none⟩ = some (.slice a1 m.nw.length c1) := HW5.out.bm.cell 2
      go_wp2_with fail
      clear k2
      go_loopw [9, 29] (fun _ i wr => ∃ j : Nat, j ≤ m.nw.length ∧ i = .int .i64 j ∧ KndAt w wr mb #[.int .i64 m.ep, .int .i64 (g : Int), .slice a1 m.nw.length c1, .slice a2 m.od.length c2] (putK G (m.nw.take j) 3) a1 a2 m) (fun _ i _ => m.nw.length - (intOf i).toNat)
      case atStart => exact ⟨0, by omega, rfl, HW5.out⟩
      case round =>
        clear HW5
        obtain ⟨j, hj, rfl, hK⟩ := hrel
        by_cases hlt : j < m.nw.length
        · have hlt' : (j : Int) < (m.nw.length : Int) := by omega
          obtain ⟨y, hy⟩ : ∃ y, m.nw[j]? = some y := ⟨m.nw[j], List.getElem?_eq_getElem hlt⟩
          have hy2 := HN.out y (by simp [List.mem_of_getElem? hy])
          obtain ⟨z, rfl⟩ : ∃ z : Nat, y = (z : Int) := ⟨y.toNat, by omega⟩
          have hz24 : (z : Int) < 24 := hy2.2
          obtain ⟨b, off, rfl, hc⟩ := hK.n1 (by intro e; rw [e] at hlt; simp at hlt)
          have c1' := hc j _ hy
          have k1 : wr.cell? ⟨w.heap.size + 1, z, none⟩ = some (.int .i64 (putK G (m.nw.take j) 3 z)) := by rw [hK.bk.cell]; exact kC_get _ z (by omega)
          have z1 := hK.bk.free z
          have HK1 : Hid (KndAt w (wr.setCell ⟨w.heap.size + 1, z, none⟩ (.int .i64 3)) mb #[.int .i64 m.ep, .int .i64 (g : Int), .slice (some ⟨b, off, none⟩) m.nw.length c1, .slice a2 m.od.length c2] (putK G (m.nw.take (j + 1)) 3) (some ⟨b, off, none⟩) a2 m) := by rw [← putK_take _ _ _ j z hy]; exact hK.put HP.out z 3
          clear hK hc HN HP HK hy hy2
          go_wp2_with fail
          go_roundw
          case rel => exact ⟨j + 1, by omega, by go_num, HK1.out⟩
          case measure => simp [intOf]; omega
        · have hje : j = m.nw.length := by omega
          subst hje
          rw [List.take_length] at hK
          have HK2 : Hid (KndAt w wr mb #[.int .i64 m.ep, .int .i64 (g : Int), .slice a1 m.nw.length c1, .slice a2 m.od.length c2] (putK G m.nw 3) a1 a2 m) := hK
          have k3 : wr.cell? ⟨mb, 3, none⟩ = some (.slice a2 m.od.length c2) := hK.bm.cell 3
          clear hK
          generalize putK G m.nw 3 = G2 at *
          go_wp2_with fail
          clear k3
          go_loopw [11, 39] (fun _ i wr => ∃ j : Nat, j ≤ m.od.length ∧ i = .int .i64 j ∧ KndAt w wr mb #[.int .i64 m.ep, .int .i64 (g : Int), .slice a1 m.nw.length c1, .slice a2 m.od.length c2] (putK G2 (m.od.take j) 4) a1 a2 m) (fun _ i _ => m.od.length - (intOf i).toNat)
          case atStart => exact ⟨0, by omega, rfl, HK2.out⟩
          case round =>
            clear HK2
            obtain ⟨j, hj, rfl, hK⟩ := hrel
            by_cases hlt : j < m.od.length
            · have hlt' : (j : Int) < (m.od.length : Int) := by omega
              obtain ⟨y, hy⟩ : ∃ y, m.od[j]? = some y := ⟨m.od[j], List.getElem?_eq_getElem hlt⟩
              have hy2 := HN.out y (by simp [List.mem_of_getElem? hy])
              obtain ⟨z, rfl⟩ : ∃ z : Nat, y = (z : Int) := ⟨y.toNat, by omega⟩
              have hz24 : (z : Int) < 24 := hy2.2
              obtain ⟨b, off, rfl, hc⟩ := hK.n2 (by intro e; rw [e] at hlt; simp at hlt)
              have c1' := hc j _ hy
              have k1 : wr.cell? ⟨w.heap.size + 1, z, none⟩ = some (.int .i64 (putK G2 (m.od.take j) 4 z)) := by rw [hK.bk.cell]; exact kC_get _ z (by omega)
              have z1 := hK.bk.free z
              have HK1 : Hid (KndAt w (wr.setCell ⟨w.heap.size + 1, z, none⟩ (.int .i64 4)) mb #[.int .i64 m.ep, .int .i64 (g : Int), .slice a1 m.nw.length c1, .slice (some ⟨b, off, none⟩) m.od.length c2] (putK G2 (m.od.take (j + 1)) 4) a1 (some ⟨b, off, none⟩) m) := by rw [← putK_take _ _ _ j z hy]; exact hK.put HP.out z 4
              clear hK hc HN HP HK hy hy2
              go_wp2_with fail
              go_roundw
              case rel => exact ⟨j + 1, by omega, by go_num, HK1.out⟩
              case measure => simp [intOf]; omega
            · have hje : j = m.od.length := by omega
              subst hje
              rw [List.take_length, ← HK.out] at hK
              clear HN HP HK
              have hrg : wr.rangeAt (w.heap.size + 1) 0 (kC KF).toList := by
                intro j v hj
                rw [Nat.zero_add, hK.bk.cell]; simpa using hj
              have HI : Hid ((Tryd.prog.info? 27).map (·.size) = some (kC KF).toList.length) := by rw [Hid]; kernel_rfl
              have hone : ∀ v ∈ (kC KF).toList, v.oneCell' = true := by
                intro v hv
                rw [kC_range] at hv
                simp only [List.mem_map] at hv
                obtain ⟨i, _, rfl⟩ := hv
                rfl
              have hsc := store_run w.heap.size 0 (kC KF).toList wr (hK.br.there (by simp [kC])) hone
              have hRW := Blk.setCells (kC KF).toList hK.br 0
              rw [putAt_all _ _ (by simp [kC])] at hRW
              have hxW := Ext.setCells (g := w.heap.size) (Nat.le_refl _) (kC KF).toList hK.ext 0
              have HRUN : Hid ((loadVar 27 ⟨w.heap.size, 0, none⟩).run Tryd.prog (wr.setCells w.heap.size 0 (kC KF).toList) = .ok (.agg (kC KF)) (wr.setCells w.heap.size 0 (kC KF).toList)) := by
                have := run_loadVar_mid (P := Tryd.prog) (wr.setCells w.heap.size 0 (kC KF).toList) w.heap.size 0 27 (kC KF).toList _ (by
                  intro j v hj
                  rw [Nat.zero_add, hRW.cell]; simpa using hj) Tryd.underlying27 rfl HI.out
                rw [Hid]
                simpa using this
              clear hRW hone hK
              have HE : Hid (kC KF = kC (kindsF m f)) := by rw [Hid, HKF.out]
              have h24A : (kC KF).size = 24 := rfl
              clear HKF
              generalize kC KF = A at *
              go_wp2_with (refine wpList_load_mid rfl 27 (.tmp 5) rfl (w.heap.size + 1) 0 (by rfl) A.toList _ hrg Tryd.underlying27 rfl HI.out ?_)
              refine bodyPost_ret (v := .agg A) ?_ rfl ⟨by rw [HE.out], hxW⟩
              rw [results_cellK Tryd.results5]
              show ((asAddr (.pointer (some ⟨w.heap.size, 0, none⟩))).run Tryd.prog _).andThen _ = _
              simp only [asAddr, Sem.run_pure, Result.andThen_ok]
              exact HRUN.out
end Go.Proofs.YtkibgflbidkalaaDoor
