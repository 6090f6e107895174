/- ManC ManD ManE ManF ManH. -/
import Derived.Test.YtkibgflbidkalaaDoorManBJ
import Derived.Deep.RegionHeld3
import Derived.Deep.DeepCutAuto
import Derived.Deep.Light
import Derived.Deep.DrawnRows
import Derived.Laws.BitsLemmas

/- Manifests: what Bytes answers. -/
namespace Go.Proofs.YtkibgflbidkalaaDoor
open Go.RowKit Go.WideShapes

theorem manF_zero {ep lg : Int} {nw od : List Int} (h : manF ep lg nw od = 0) : (1 ≤ ep ∧ ep ≤ 100000) ∧ scan [] (lg :: (nw ++ od)) = 0 := by
  unfold manF at h
  by_cases h1 : ep < 1 ∨ 100000 < ep
  · rw [if_pos h1] at h; omega
  · rw [if_neg h1] at h; exact ⟨by omega, h⟩
theorem manF_cases (ep lg : Int) (nw od : List Int) : 0 ≤ manF ep lg nw od := by
  have : ∀ l seen, 0 ≤ scan seen l := by
    intro l
    induction l with
    | nil => intro seen; simp [scan]
    | cons b r ih => intro seen; unfold scan; split <;> (try split) <;> (try exact ih _) <;> omega
  unfold manF; split
  · omega
  · exact this _ _
theorem listsI2 {w : World} {b : Nat} {t : TypeId} (A B : LI) (h : Blk w b #[.slice A.ao A.xs.length A.cap, .slice B.ao B.xs.length B.cap] t)
    (hA : NumsAt w A.ao A.xs) (hB : NumsAt w B.ao B.xs) : ListsI w (some ⟨b, 0, none⟩) [A, B] := by
  intro _
  refine ⟨b, 0, rfl, fun i l hl => ?_⟩
  rw [Nat.zero_add, h.cell]
  match i with
  | 0 => simp at hl; subst hl; exact ⟨rfl, hA⟩
  | 1 => simp at hl; subst hl; exact ⟨rfl, hB⟩
  | n + 2 => simp at hl
theorem concat2 (w : World) (no oo : Option Addr) (nc oc : Nat) (nw od : List Int) (t2 : TypeId) (hn : NumsAt w no nw) (ho : NumsAt w oo od) (hl : nw.length + od.length ≤ 100) :
    Calls Tryd.prog 57 #[.slice (some ⟨w.heap.size, 0, none⟩) 2 2] (w.alloc (.cells #[.slice no nw.length nc, .slice oo od.length oc] t2)) fun e w' => ∃ ao c, e = .returned (.slice ao (nw ++ od).length c) ∧ NumsAt w' ao (nw ++ od) ∧ Ext w w' ∧ ∀ b off, ao = some ⟨b, off, none⟩ → w.heap.size ≤ b ∧ b < w'.heap.size := by
  have hx : Ext w (w.alloc (.cells #[.slice no nw.length nc, .slice oo od.length oc] t2)) := (Ext.refl w).alloc _
  have hc : cat [⟨nw, no, nc⟩, ⟨od, oo, oc⟩] = nw ++ od := by simp [cat]
  have := concat_any (some ⟨w.heap.size, 0, none⟩) 2 [⟨nw, no, nc⟩, ⟨od, oo, oc⟩] _ (by simp) (by rw [hc]; simp; omega) (listsI2 ⟨nw, no, nc⟩ ⟨od, oo, oc⟩ (Blk.new w _ t2) (hn.ext hx) (ho.ext hx))
  rw [hc] at this
  refine this.mono ?_
  rintro e w' ⟨v, rfl, hI⟩
  obtain ⟨ao, cap, hv, ha⟩ := hI.at
  refine ⟨ao, cap, by rw [hv], ha, hx.trans hI.ext, fun b off e => ?_⟩
  subst e
  have h1 := hI.own.lt b (by rw [hv]; rfl)
  exact ⟨Nat.le_trans (by simp) h1.1, h1.2⟩

/-- The first seven. -/
def hd7 (ep lg : Int) (nw od : List Int) : List UInt8 := [77, byt (ep % 256), byt (ep / 256 % 256), byt (ep / 65536), byt lg, UInt8.ofNat nw.length, UInt8.ofNat od.length]
theorem byt_nat (n : Nat) (h : n < 256) : ((byt (n : Int)).toNat : Int) = (n : Int) := by
  unfold byt; simp; omega
theorem hd7_cells (E G : Nat) (nw od : List Int) (hE : E ≤ 100000) (hG : G < 24) (hn : nw.length < 256) (ho : od.length < 256) :
    (Lib.byteCells (hd7 (E : Int) (G : Int) nw od)).toArray = #[.int .u8 77, .int .u8 ((E : Int) % 256), .int .u8 ((E : Int) / 256 % 256), .int .u8 ((E : Int) / 65536), .int .u8 (G : Int), .int .u8 (nw.length : Int), .int .u8 (od.length : Int)] := by
  have e1 : ((byt ((E : Int) % 256)).toNat : Int) = (E : Int) % 256 := by
    have := byt_nat (E % 256) (by omega); simpa using this
  have e2 : ((byt ((E : Int) / 256 % 256)).toNat : Int) = (E : Int) / 256 % 256 := by
    have := byt_nat (E / 256 % 256) (by omega); simpa using this
  have e3 : ((byt ((E : Int) / 65536)).toNat : Int) = (E : Int) / 65536 := by
    have := byt_nat (E / 65536) (by omega); simpa using this
  have e4 := byt_nat G (by omega)
  have e5 : ((UInt8.ofNat nw.length).toNat : Int) = (nw.length : Int) := by simp; omega
  have e6 : ((UInt8.ofNat od.length).toNat : Int) = (od.length : Int) := by simp; omega
  simp only [Lib.byteCells, hd7, List.map_cons, List.map_nil, e1, e2, e3, e4, e5, e6]
  rfl

set_option maxRecDepth 20000 in
set_option maxHeartbeats 2000000 in
theorem manBytes_bad (ep lg : Int) (no oo : Option Addr) (nc oc : Nat) (nw od : List Int) (w : World) (hl : nw.length + od.length ≤ 100) (hn : NumsAt w no nw) (ho : NumsAt w oo od) (hf : ¬ manF ep lg nw od = 0) :
    Calls Tryd.prog 83 #[.agg #[.int .i64 ep, .int .i64 lg, .slice no nw.length nc, .slice oo od.length oc]] w fun e w' => e = .returned (.tuple #[.string ⟨#[]⟩, .iface 62 (.int .i64 (manF ep lg nw od))]) ∧ Ext w w' := by
  have HC : Hid (∀ o, Calls Tryd.prog 90 #[.agg #[.int .i64 ep, .int .i64 lg, .slice no nw.length nc, .slice oo od.length oc]] (w.alloc o) fun e w' => e = .returned (.iface 62 (.int .i64 (manF ep lg nw od))) ∧ Ext (w.alloc o) w') := fun o => by
    have := manCheck_any ep lg no oo nc oc nw od (w.alloc o) hl (hn.ext ((Ext.refl w).alloc o)) (ho.ext ((Ext.refl w).alloc o))
    unfold errN at this; rw [if_neg hf] at this; exact this
  clear hn ho
  generalize manF ep lg nw od = f at *
  go_enter Tryd.func83, Tryd.ntmps83
  go_wp2_with (go_at_call 90; refine (HC.out _).mono ?_; rintro e w2 ⟨rfl, hx2⟩)
  go_ret2
  exact ⟨rfl, ((Ext.refl w).alloc _).trans hx2⟩

set_option maxRecDepth 20000 in
set_option maxHeartbeats 2000000 in
theorem manBytes_ok (E G : Nat) (no oo : Option Addr) (nc oc : Nat) (nw od : List Int) (w : World) (hl : nw.length + od.length ≤ 100) (hn : NumsAt w no nw) (ho : NumsAt w oo od) (hf : manF (E : Int) (G : Int) nw od = 0) :
    Calls Tryd.prog 83 #[.agg #[.int .i64 (E : Int), .int .i64 (G : Int), .slice no nw.length nc, .slice oo od.length oc]] w fun e w' => e = .returned (.tuple #[.string (txtM (encM (E : Int) (G : Int) nw od)), .nilIface]) ∧ Ext w w' := by
  obtain ⟨hE, hS⟩ := manF_zero hf
  obtain ⟨hr, _, _⟩ := scan_zero hS
  have HC : Hid (∀ o, Calls Tryd.prog 90 #[.agg #[.int .i64 (E : Int), .int .i64 (G : Int), .slice no nw.length nc, .slice oo od.length oc]] (w.alloc o) fun e w' => e = .returned .nilIface ∧ Ext (w.alloc o) w') := fun o => by
    have := manCheck_any (E : Int) (G : Int) no oo nc oc nw od (w.alloc o) hl (hn.ext ((Ext.refl w).alloc o)) (ho.ext ((Ext.refl w).alloc o))
    unfold errN at this; rw [if_pos hf] at this; exact this
  have hG := hr (G : Int) (by simp)
  have HR : Hid (∀ x ∈ nw ++ od, 2 ≤ x ∧ x < 24) := fun x hx => hr x (List.mem_cons_of_mem _ hx)
  have HB : Hid (∀ o : Obj, ∀ w2 : World, Ext (w.alloc (.cells #[.int .i64 (E : Int), .int .i64 (G : Int), .slice no nw.length nc, .slice oo od.length oc] 42)) w2 → Blk w2 w.heap.size #[.int .i64 (E : Int), .int .i64 (G : Int), .slice no nw.length nc, .slice oo od.length oc] 42) := fun o w2 hx => Blk.ext hx (Blk.new _ _ _)
  clear hf hS hr
  go_enter Tryd.func83, Tryd.ntmps83
  go_wp2_with (go_at_call 90; refine (HC.out _).mono ?_; rintro e w2 ⟨rfl, hx2⟩; have hB2 := HB.out (.cells #[] 0) w2 hx2; have m0 : w2.cell? ⟨w.heap.size, 0, none⟩ = some (.int .i64 (E : Int)) := hB2.cell 0; have m1 : w2.cell? ⟨w.heap.size, 1, none⟩ = some (.int .i64 (G : Int)) := hB2.cell 1; have m2 : w2.cell? ⟨w.heap.size, 2, none⟩ = some (.slice no nw.length nc) := hB2.cell 2; have m3 : w2.cell? ⟨w.heap.size, 3, none⟩ = some (.slice oo od.length oc) := hB2.cell 3; have m4 := hB2.lt; have m5 : ¬ w.heap.size = w2.heap.size := Nat.ne_of_lt m4)
  have hxw : Ext w w2 := ((Ext.refl w).alloc _).trans hx2
  have hL3 : BL w (w2.alloc (.cells #[.int .u8 77, .int .u8 ((E : Int) % 256), .int .u8 ((E : Int) / 256 % 256), .int .u8 ((E : Int) / 65536), .int .u8 (G : Int), .int .u8 (nw.length : Int), .int .u8 (od.length : Int)] 5)) (.slice (some ⟨w2.heap.size, 0, none⟩) 7 7) (hd7 (E : Int) (G : Int) nw od) := by
    have := bl_new hxw (hd7 (E : Int) (G : Int) nw od) (by simp [hd7])
    rw [hd7_cells E G nw od (by omega) (by omega) (by omega) (by omega)] at this
    exact this
  have hs3 : (w2.alloc (.cells #[.int .u8 77, .int .u8 ((E : Int) % 256), .int .u8 ((E : Int) / 256 % 256), .int .u8 ((E : Int) / 65536), .int .u8 (G : Int), .int .u8 (nw.length : Int), .int .u8 (od.length : Int)] 5)).heap.size = w2.heap.size + 1 := by simp
  have CC := concat2 (w2.alloc (.cells #[.int .u8 77, .int .u8 ((E : Int) % 256), .int .u8 ((E : Int) / 256 % 256), .int .u8 ((E : Int) / 65536), .int .u8 (G : Int), .int .u8 (nw.length : Int), .int .u8 (od.length : Int)] 5)) no oo nc oc nw od 40 (hn.ext hL3.ext) (ho.ext hL3.ext) hl
  rw [hs3] at CC
  have hw3' : w2.heap.size < (w2.alloc (.cells #[.int .u8 77, .int .u8 ((E : Int) % 256), .int .u8 ((E : Int) / 256 % 256), .int .u8 ((E : Int) / 65536), .int .u8 (G : Int), .int .u8 (nw.length : Int), .int .u8 (od.length : Int)] 5)).heap.size := by simp
  clear hs3 m0 m1 m2 m3 m4 m5 hB2 hx2 HC HB hn ho
  generalize w2.alloc (.cells #[.int .u8 77, .int .u8 ((E : Int) % 256), .int .u8 ((E : Int) / 256 % 256), .int .u8 ((E : Int) / 65536), .int .u8 (G : Int), .int .u8 (nw.length : Int), .int .u8 (od.length : Int)] 5) = w3 at *
  refine CC.mono ?_
  rintro e w5 ⟨ao, c5, rfl, hN, hx5, hof⟩
  have hw3 : w2.heap.size < w3.heap.size := hw3'
  go_wp2_with fail
  have hL5 := hL3.more hx5
  have HEN : Hid (encM (E : Int) (G : Int) nw od = hd7 (E : Int) (G : Int) nw od ++ (nw ++ od).map byt) := rfl
  have hd7l : (hd7 (E : Int) (G : Int) nw od).length = 7 := rfl
  have hlen : (nw ++ od).length = nw.length + od.length := by simp
  clear CC hL3 hx5 hG hE
  generalize hd7 (E : Int) (G : Int) nw od = h7 at *
  generalize nw ++ od = all at *
  have HLN : Hid (all.length = nw.length + od.length) := hlen
  clear hlen
  have hof0 : ∀ b off, ao = some ⟨b, off, none⟩ → w2.heap.size ≠ b ∧ b < w5.heap.size := fun b off e => by have := hof b off e; omega
  clear hof
  generalize w2.heap.size = g0 at *
  go_loopw [6, 8, 43] (fun v _ i wr => ∃ k g cp : Nat, k ≤ all.length ∧ i = .int .i64 k ∧ v = .slice (some ⟨g, 0, none⟩) (7 + k) cp ∧ BL w wr (.slice (some ⟨g, 0, none⟩) (7 + k) cp) (h7 ++ (all.take k).map byt) ∧ NumsAt wr ao all ∧ ∀ b off, ao = some ⟨b, off, none⟩ → g ≠ b ∧ b < wr.heap.size) (fun _ _ i _ => all.length - (intOf i).toNat)
  case atStart => exact ⟨0, g0, 7, Nat.zero_le _, rfl, rfl, by simpa using hL5, hN, hof0⟩
  case round =>
    clear hL5 hN hof0
    obtain ⟨k, g, cp, hk, rfl, rfl, hL, hN, hof⟩ := hrel
    by_cases hlt : k < all.length
    · obtain ⟨b, off, x, rfl, he, h1⟩ := hN.get hlt
      have hkI : (k : Int) < (nw.length : Int) + (od.length : Int) := by have := HLN.out; omega
      obtain ⟨n, rfl⟩ : ∃ n : Nat, x = (n : Int) := ⟨x.toNat, by have := HR.out x (List.mem_of_getElem? he); omega⟩
      have hn24 : n < 24 := by have := HR.out _ (List.mem_of_getElem? he); omega
      have HS : Hid (h7 ++ (all.take (k + 1)).map byt = h7 ++ (all.take k).map byt ++ [byt (n : Int)]) := by unfold Hid; rw [List.take_add_one, he]; simp
      have hzl : (h7 ++ (all.take k).map byt).length = 7 + k := by simp [hd7l]; omega
      have HBY : Hid (((byt (n : Int)).toNat : Int) = (n : Int)) := byt_nat n (by omega)
      have HN : Hid (NumsAt wr (some ⟨b, off, none⟩) all) := hN
      have hgb := hof b off rfl
      have hk100 : k ≤ 100 := by have := HLN.out; omega
      clear he hN hof
      generalize h7 ++ (all.take k).map byt = z at *
      have HZ : Hid (z.length = 7 + k) := hzl
      clear hzl
      go_wp2_with (at_builtin; refine wpList_app_byte rfl _ _ rfl w (.slice (some ⟨g, 0, none⟩) (7 + k) cp) z rfl ?c1 wr.heap.size (byt (n : Int)) rfl ?c2 ?c3 ?_)
      case c1 => exact hL.alloc _
      case c2 => rw [HBY.out]; exact Blk.new _ _ _
      case c3 => rw [HZ.out]; omega
      intro g2 cp2 w6 hL6 hgr hat hlt6
      rw [HZ.out] at hL6 ⊢
      have hN6 : NumsAt w6 (some ⟨b, off, none⟩) all := fun hne => by
        obtain ⟨b1, o1, e1, hc⟩ := (HN.out.ext ((Ext.refl wr).alloc _)) hne
        cases e1
        exact ⟨b, off, rfl, fun i y hy => hgr.cell (hc i y hy) (by simp [Value.ownBlock]; exact fun e => hgb.1 e.symm)⟩
      have hof6 : ∀ b1 off1, some (⟨b, off, none⟩ : Addr) = some ⟨b1, off1, none⟩ → g2 ≠ b1 ∧ b1 < w6.heap.size := fun b1 o1 e => by
        cases e
        have hsz := hgr.size
        simp at hsz
        refine ⟨?_, by omega⟩
        rcases hat with h | h
        · simp [Value.ownBlock] at h; omega
        · (try simp at h)
          omega
      clear hL hgr hat HN h1
      go_wp2
      go_roundw
      case rel => exact ⟨k + 1, g2, cp2, by omega, by go_num, rfl, by rw [HS.out]; exact hL6, hN6, hof6⟩
      case measure => simp [intOf]; omega
    · have hkI : ¬ ((k : Int) < (nw.length : Int) + (od.length : Int)) := by have := HLN.out; omega
      have htk : all.take k = all := List.take_of_length_le (by omega)
      rw [htk] at hL
      have hzl : (h7 ++ all.map byt).length = 7 + k := by simp [hd7l]; omega
      have hcv := (hL.conv (by intro e; rw [e] at hzl; simp at hzl; omega)).2 g cp (by rw [hzl])
      rw [hzl] at hcv
      have HX : Hid (Ext w wr) := hL.ext
      have HT : Hid (txtM (encM (E : Int) (G : Int) nw od) = txtM (h7 ++ all.map byt)) := by rw [Hid, HEN.out]
      clear hL hN hof htk hzl
      go_wp2
      go_ret2
      exact ⟨by rw [HT.out]; rfl, HX.out⟩
end Go.Proofs.YtkibgflbidkalaaDoor

/- Manifests: numbers, Parse. -/
namespace Go.Proofs.YtkibgflbidkalaaDoor
open Go.RowKit Go.WideShapes

def numsOf (l : List UInt8) : List Int := l.map fun b => (b.toNat : Int)
theorem byte_take (s : ByteArray) (k : Nat) (h : k < s.size) : s.data.toList.take (k + 1) = s.data.toList.take k ++ [s[k]] := by
  rw [List.take_add_one, List.getElem?_eq_getElem (by simpa using h)]; rfl

set_option maxRecDepth 20000 in
set_option maxHeartbeats 2000000 in
theorem numbers_any (s : ByteArray) (w : World) (hs : s.size ≤ 10000) :
    Calls Tryd.prog 91 #[.string s] w fun e w' => ∃ v, e = .returned v ∧ IL w w' v (numsOf s.data.toList) := by
  go_enter Tryd.func91, Tryd.ntmps91
  go_wp2
  go_loopw [3, 4, 7] (fun v _ i wr => ∃ k : Nat, k ≤ s.size ∧ i = .int .i64 k ∧ IL w wr v (numsOf (s.data.toList.take k))) (fun _ _ i _ => s.size - (intOf i).toNat)
  case atStart => exact ⟨0, Nat.zero_le _, rfl, IL.nil (Ext.refl _)⟩
  case round =>
    obtain ⟨k, hk, rfl, hI⟩ := hrel
    by_cases hlt : k < s.size
    · have HS : Hid (numsOf (s.data.toList.take (k + 1)) = numsOf (s.data.toList.take k) ++ [(s[k].toNat : Int)]) := by rw [Hid, byte_take s k hlt]; simp [numsOf]
      have hll : (numsOf (s.data.toList.take k)).length ≤ 10000 := by simp [numsOf]; omega
      have hb : s[k].toNat < 256 := s[k].toNat_lt
      have ix : ∀ W : World, (Instr.index 9 (.string s) (.int .i64 (k : Int))).run Tryd.prog W = .ok (.int .u8 (s[k].toNat : Int)) W := fun W => by
        simp [go_sem, Tryd.underlying9, hlt]
      generalize s[k].toNat = y at *
      generalize numsOf (s.data.toList.take k) = z at *
      go_wp2_with (at_builtin; refine wpList_app_nums rfl _ _ rfl w _ z rfl ?c1 (some ⟨wr.heap.size, 0, none⟩) 1 [(y : Int)] rfl ?c2 ?c3 ?_)
      case c1 => exact hI.alloc _
      case c2 => exact nums_blk (Blk.new _ _ _)
      case c3 => simp; omega
      intro v2 w2 hI2
      clear hI
      go_wp2
      go_roundw
      case rel => exact ⟨k + 1, by omega, by go_num, by rw [HS.out]; exact hI2⟩
      case measure => simp [intOf]; omega
    · have HE : Hid (numsOf s.data.toList = numsOf (s.data.toList.take k)) := by unfold Hid; rw [List.take_of_length_le (by simp; omega)]
      go_wp2
      go_ret
      exact ⟨_, rfl, by rw [HE.out]; exact hI⟩
theorem numbers_ret (s : ByteArray) (w : World) (hs : s.size ≤ 10000) :
    Calls Tryd.prog 91 #[.string s] w fun e w' => ∃ ao cap, e = .returned (.slice ao (numsOf s.data.toList).length cap) ∧ NumsAt w' ao (numsOf s.data.toList) ∧ Ext w w' := by
  refine (numbers_any s w hs).mono ?_
  rintro e w' ⟨v, rfl, hI⟩
  obtain ⟨ao, cap, hv, ha⟩ := hI.at
  exact ⟨ao, cap, by rw [hv], ha, hI.ext⟩
end Go.Proofs.YtkibgflbidkalaaDoor

/- Manifests: Parse. -/
namespace Go.Proofs.YtkibgflbidkalaaDoor
open Go.RowKit Go.WideShapes
attribute [local go_sem ↓] Go.wp_at_zero Go.wp_at_succ
theorem Tryd.results85 : Tryd.f85.results = #[.cell 2 42, .tmp 3] := by kernel_rfl
theorem bcellM {W w1 : World} (hb : Below W.heap.size W w1) : (∀ b o, b < W.heap.size → w1.cell? ⟨b, o, none⟩ = W.cell? ⟨b, o, none⟩) ∧ (∀ b o, b < W.heap.size → w1.frozen? ⟨b, o, none⟩ = W.frozen? ⟨b, o, none⟩) :=
  ⟨fun b o h => hb.cell (p := ⟨b, o, none⟩) h, fun b o h => hb.frozen (p := ⟨b, o, none⟩) h⟩
theorem Blk.put4 {w : World} {b : Nat} {x y z u x' y' z' u' : Value} {t : TypeId} (h : Blk w b #[x, y, z, u] t) : Blk ((((w.setCell ⟨b, 0, none⟩ x').setCell ⟨b, 1, none⟩ y').setCell ⟨b, 2, none⟩ z').setCell ⟨b, 3, none⟩ u') b #[x', y', z', u'] t :=
  (((h.set 0 x').set 1 y').set 2 z').set 3 u'
theorem size_allocM (w : World) (o : Obj) : (w.alloc o).heap.size = w.heap.size + 1 := by
  show (Array.push _ _).size = _
  exact Array.size_push _
theorem size_drewM (w : World) : w.drew.heap.size = w.heap.size := rfl
def NumB (w : World) (lo hi : Nat) (ao : Option Addr) (l : List Int) : Prop :=
  (∀ p, ao = some p → lo ≤ p.block ∧ p.block < hi) ∧ hi ≤ w.heap.size ∧ (l ≠ [] → ∃ b off, ao = some ⟨b, off, none⟩ ∧ lo ≤ b ∧ b < hi ∧ ∀ i x, l[i]? = some x → w.cell? ⟨b, off + i, none⟩ = some (.int .i64 x))
theorem NumB.at {w : World} {lo hi : Nat} {ao : Option Addr} {l : List Int} (h : NumB w lo hi ao l) : NumsAt w ao l := fun hne => by
  obtain ⟨b, off, e, _, _, hc⟩ := h.2.2 hne
  exact ⟨b, off, e, hc⟩
theorem NumB.ext {w w' : World} {lo hi : Nat} {ao : Option Addr} {l : List Int} (hx : Ext w w') (h : NumB w lo hi ao l) : NumB w' lo hi ao l := ⟨h.1, Nat.le_trans h.2.1 hx.size, fun hne => by
  obtain ⟨b, off, e, h1, h2, hc⟩ := h.2.2 hne
  exact ⟨b, off, e, h1, h2, fun i x hi => hx.cell (hc i x hi)⟩⟩
theorem NumB.set {w : World} {lo hi : Nat} {ao : Option Addr} {l : List Int} {p : Addr} (h : NumB w lo hi ao l) (hp : p.block < lo ∨ hi ≤ p.block) (u : Value) : NumB (w.setCell p u) lo hi ao l := ⟨h.1, by rw [World.size_setCell]; exact h.2.1, fun hne => by
  obtain ⟨b, off, e, h1, h2, hc⟩ := h.2.2 hne
  refine ⟨b, off, e, h1, h2, fun i x hi => ?_⟩
  have hb : b ≠ p.block := by omega
  have := hc i x hi
  unfold World.cell? at this ⊢
  rw [Below.heap_setCell _ _ _ _ hb]
  exact this⟩
structure NumR (w w' : World) (ao : Option Addr) (n : Nat) (l : List Int) : Prop where
  ext : Ext w w'
  len : n = l.length
  nums : NumB w' w.heap.size w'.heap.size ao l
/-- Numbers that lie in a block behind block g. -/
def NumsF (w : World) (g : Nat) (ao : Option Addr) (l : List Int) : Prop :=
  (∀ p, ao = some p → g < p.block ∧ p.block < w.heap.size) ∧ (l ≠ [] → ∃ b off, ao = some ⟨b, off, none⟩ ∧ g < b ∧ ∀ i x, l[i]? = some x → w.cell? ⟨b, off + i, none⟩ = some (.int .i64 x))
theorem NumsF.at {w : World} {g : Nat} {ao : Option Addr} {l : List Int} (h : NumsF w g ao l) : NumsAt w ao l := fun hne => by
  obtain ⟨b, off, e, _, hc⟩ := h.2 hne
  exact ⟨b, off, e, hc⟩
theorem NumsF.ext {w w' : World} {g : Nat} {ao : Option Addr} {l : List Int} (hx : Ext w w') (h : NumsF w g ao l) : NumsF w' g ao l := ⟨fun p e => ⟨(h.1 p e).1, Nat.lt_of_lt_of_le (h.1 p e).2 hx.size⟩, fun hne => by
  obtain ⟨b, off, e, h1, hc⟩ := h.2 hne
  exact ⟨b, off, e, h1, fun i x hi => hx.cell (hc i x hi)⟩⟩
theorem NumsF.set {w : World} {g : Nat} {ao : Option Addr} {l : List Int} (h : NumsF w g ao l) (i : Nat) (v : Value) : NumsF (w.setCell ⟨g, i, none⟩ v) g ao l := ⟨fun p e => by rw [World.size_setCell]; exact h.1 p e, fun hne => by
  obtain ⟨b, off, e, h1, hc⟩ := h.2 hne
  exact ⟨b, off, e, h1, fun j x hj => by rw [cell_away w (show b ≠ g by omega)]; exact hc j x hj⟩⟩
theorem NumsF.mono {w : World} {g g' : Nat} {ao : Option Addr} {l : List Int} (h : NumsF w g ao l) (hg : g' ≤ g) : NumsF w g' ao l := ⟨fun p e => ⟨by have := (h.1 p e).1; omega, (h.1 p e).2⟩, fun hne => by
  obtain ⟨b, off, e, h1, hc⟩ := h.2 hne
  exact ⟨b, off, e, by omega, hc⟩⟩
theorem NumsF.nil (w : World) (g : Nat) : NumsF w g none [] := ⟨fun p e => by (cases e), fun h => absurd rfl h⟩
theorem NumR.go {w w' wx : World} {g : Nat} {ao : Option Addr} {n : Nat} {l : List Int} (_ : NumR w w' ao n l) (k : NumB wx w.heap.size w'.heap.size ao l) (hg : g < w.heap.size) : NumsF wx g ao l := ⟨fun p e => by have := k.1 p e; have := k.2.1; omega, fun hne => by
  obtain ⟨b, off, e, h1, _, hc⟩ := k.2.2 hne
  exact ⟨b, off, e, by omega, hc⟩⟩
theorem numbers_let (s : ByteArray) (w : World) (hs : s.size ≤ 10000) :
    Calls Tryd.prog 91 #[.string s] w fun e w' => ∃ ao n cap, e = .returned (.slice ao n cap) ∧ NumR w w' ao n (numsOf s.data.toList) := by
  refine (numbers_any s w hs).mono ?_
  rintro e w' ⟨v, rfl, hI⟩
  obtain ⟨ao, cap, hv, ha⟩ := hI.at
  refine ⟨ao, _, cap, by rw [hv], hI.ext, rfl, fun p e => ?_, Nat.le_refl _, fun hne => ?_⟩
  · have := hI.own.lt p.block (by rw [hv, e]; rfl)
    exact this
  obtain ⟨b, off, e, hc⟩ := ha hne
  obtain ⟨hlen, hcase⟩ := hI.own
  refine ⟨b, off, e, ?_, ?_, hc⟩
  · rcases hcase with ⟨rfl, h0⟩ | ⟨g, cap, cur, rfl, hg, hh, _, _, _, htake⟩
    · rw [e] at hv; cases hv
    · rw [e] at hv; cases hv; exact hg
  · rcases hcase with ⟨rfl, h0⟩ | ⟨g, cap, cur, rfl, hg, hh, _, _, _, htake⟩
    · rw [e] at hv; cases hv
    · rw [e] at hv; cases hv
      rcases Nat.lt_or_ge b w'.heap.size with h' | h'
      · exact h'
      · rw [Array.getElem?_eq_none h'] at hh; cases hh
theorem wrap_small (n : Int) (h0 : 0 ≤ n) (h1 : n < 2 ^ 62) : IntKind.i64.wrap n = n := by rw [IntKind.wrap_i64]; omega
/-- Three bytes of an epoch. -/
theorem ep_sum (x1 x2 x3 : Int) (g1 : 0 ≤ x1) (l1 : x1 < 256) (g2 : 0 ≤ x2) (l2 : x2 < 256) (g3 : 0 ≤ x3) (l3 : x3 < 256) :
    bits .or .i64 (bits .or .i64 (IntKind.i64.wrap x1) (IntKind.i64.wrap (IntKind.i64.wrap x2 * 256))) (IntKind.i64.wrap (IntKind.i64.wrap x3 * 65536)) = x1 + 256 * x2 + 65536 * x3 := by
  have or_comm' : ∀ a b : Nat, a < 2 ^ 62 → b < 2 ^ 62 → bits .or .i64 (a : Int) (b : Int) = bits .or .i64 (b : Int) (a : Int) := fun a b ha hb => by
    rw [(bits_nat .i64 62 (by decide) (fun n h0 h1 => wrap_small n h0 h1) a b ha hb).2, (bits_nat .i64 62 (by decide) (fun n h0 h1 => wrap_small n h0 h1) b a hb ha).2, Nat.or_comm]
  obtain ⟨a, rfl⟩ := Int.eq_ofNat_of_zero_le g1
  obtain ⟨b, rfl⟩ := Int.eq_ofNat_of_zero_le g2
  obtain ⟨c, rfl⟩ := Int.eq_ofNat_of_zero_le g3
  have J := fun i => bits_join .i64 62 (by decide) (fun n h0 h1 => wrap_small n h0 h1) i
  rw [wrap_small (a : Int) (by omega) (by omega), wrap_small (b : Int) (by omega) (by omega), wrap_small (c : Int) (by omega) (by omega), wrap_small ((b : Int) * 256) (by omega) (by omega), wrap_small ((c : Int) * 65536) (by omega) (by omega)]
  have e1 : bits .or .i64 (a : Int) ((b : Int) * 256) = (b : Int) * 256 + a := by
    have := or_comm' a (b * 256) (by omega) (by omega)
    rw [show ((b * 256 : Nat) : Int) = (b : Int) * 256 by omega] at this
    rw [this]
    exact J 8 ((b : Int) * 256) a (by omega) (by omega) (by omega) (by omega) (by omega) (by omega)
  rw [e1]
  have := or_comm' (b * 256 + a) (c * 65536) (by omega) (by omega)
  rw [show ((b * 256 + a : Nat) : Int) = (b : Int) * 256 + a by omega, show ((c * 65536 : Nat) : Int) = (c : Int) * 65536 by omega] at this
  rw [this, J 16 ((c : Int) * 65536) ((b : Int) * 256 + a) (by omega) (by omega) (by omega) (by omega) (by omega) (by omega)]
  omega
theorem numsOf_length (l : List UInt8) : (numsOf l).length = l.length := by simp [numsOf]
/-- What Parse gives, of a text that is long enough. -/
def ParseM (w w' : World) (e : Ending) (ep lg : Int) (nw od : List Int) : Prop :=
  (manF ep lg nw od = 0 ∧ ∃ a1 c1 a2 c2, e = .returned (.tuple #[.agg #[.int .i64 ep, .int .i64 lg, .slice a1 nw.length c1, .slice a2 od.length c2], .nilIface]) ∧ NumsF w' w.heap.size a1 nw ∧ NumsF w' w.heap.size a2 od ∧ Ext w w') ∨
  (¬ manF ep lg nw od = 0 ∧ e = .returned (.tuple #[.agg #[.int .i64 0, .int .i64 0, .slice none 0 0, .slice none 0 0], .iface 62 (.int .i64 4)]) ∧ Ext w w')
set_option maxRecDepth 20000 in
set_option maxHeartbeats 1000000 in
theorem parseM_in (s : ByteArray) (w : World) (b1 b2 b3 b4 n k : UInt8) (hs : s.size ≤ 100) (h7 : 7 ≤ s.size) (h0 : s[0] = 77) (e1 : s[1] = b1) (e2 : s[2] = b2) (e3 : s[3] = b3) (e4 : s[4] = b4) (e5 : s[5] = n) (e6 : s[6] = k) (hlen : 7 + n.toNat + k.toNat ≤ s.size) :
    Calls Tryd.prog 85 #[.string s] w fun e w' => ParseM w w' e ((b1.toNat : Int) + 256 * (b2.toNat : Int) + 65536 * (b3.toNat : Int)) (b4.toNat : Int) (numsOf (s.extract 7 (7 + n.toNat)).data.toList) (numsOf (s.extract (7 + n.toNat) (7 + n.toNat + k.toNat)).data.toList) := by
  have hb1 : b1.toNat < 256 := b1.toNat_lt
  have hb2 : b2.toNat < 256 := b2.toNat_lt
  have hb3 : b3.toNat < 256 := b3.toNat_lt
  have hb4 : b4.toNat < 256 := b4.toNat_lt
  have hbn : n.toNat < 256 := n.toNat_lt
  have hbk : k.toNat < 256 := k.toNat_lt
  have ix : ∀ (i : Nat) (y : UInt8), ∀ hi : i < s.size, s[i] = y → ∀ W : World, (Instr.index 9 (.string s) (.int .i64 (i : Int))).run Tryd.prog W = .ok (.int .u8 (y.toNat : Int)) W := fun i y hi hy W => by
    subst hy; simp [go_sem, Tryd.underlying9, hi]
  have i0 := ix 0 77 (by omega) h0
  have i1 := ix 1 b1 (by omega) e1
  have i2 := ix 2 b2 (by omega) e2
  have i3 := ix 3 b3 (by omega) e3
  have i4 := ix 4 b4 (by omega) e4
  have i5 := ix 5 n (by omega) e5
  have i6 := ix 6 k (by omega) e6
  simp only [Int.cast_ofNat_Int] at i0 i1 i2 i3 i4 i5 i6
  have sl1 : ∀ W : World, (Instr.slice 9 (.string s) (some (.int .i64 7)) (some (.int .i64 (7 + (n.toNat : Int)))) none).run Tryd.prog W = .ok (.string (s.extract 7 (7 + n.toNat))) W := fun W => by
    have := run_slice_string (P := Tryd.prog) (w := W) 9 s .i64 .i64 7 (7 + (n.toNat : Int)) Tryd.underlying9 (by omega) (by omega) (by omega)
    rw [this, show (7 : Int).toNat = 7 from rfl, show (7 + (n.toNat : Int)).toNat = 7 + n.toNat by omega]
  have sl2 : ∀ W : World, (Instr.slice 9 (.string s) (some (.int .i64 (7 + (n.toNat : Int)))) (some (.int .i64 (7 + (n.toNat : Int) + (k.toNat : Int)))) none).run Tryd.prog W = .ok (.string (s.extract (7 + n.toNat) (7 + n.toNat + k.toNat))) W := fun W => by
    have := run_slice_string (P := Tryd.prog) (w := W) 9 s .i64 .i64 (7 + (n.toNat : Int)) (7 + (n.toNat : Int) + (k.toNat : Int)) Tryd.underlying9 (by omega) (by omega) (by omega)
    rw [this, show (7 + (n.toNat : Int)).toNat = 7 + n.toNat by omega, show (7 + (n.toNat : Int) + (k.toNat : Int)).toNat = 7 + n.toNat + k.toNat by omega]
  have hN : (s.extract 7 (7 + n.toNat)).size ≤ 10000 := by simp; omega
  have hO : (s.extract (7 + n.toNat) (7 + n.toNat + k.toNat)).size ≤ 10000 := by simp; omega
  have t7 : ¬ ((s.size : Int) < 7) := by omega
  have tl : ¬ ((s.size : Int) < 7 + (n.toNat : Int) + (k.toNat : Int)) := by omega
  have hp0 : 0 < s.size := by omega
  have hLL : (numsOf (s.extract 7 (7 + n.toNat)).data.toList).length + (numsOf (s.extract (7 + n.toNat) (7 + n.toNat + k.toNat)).data.toList).length ≤ 100 := by
    rw [numsOf_length, numsOf_length, ← Lib.size_eq, ← Lib.size_eq]; simp; omega
  clear h0 e1 e2 e3 e4 e5 e6 ix
  generalize s.extract 7 (7 + n.toNat) = N at *
  generalize s.extract (7 + n.toNat) (7 + n.toNat + k.toNat) = O at *
  have CN := fun W => numbers_let N W hN
  have CO := fun W => numbers_let O W hO
  generalize numsOf N.data.toList = LN at *
  generalize numsOf O.data.toList = LO at *
  simp only [show ((77 : UInt8).toNat : Int) = 77 from rfl] at i0
  clear h7 hlen hs hb1 hb2 hb3 hb4 hN hO
  have g1 : (0 : Int) ≤ b1.toNat ∧ (b1.toNat : Int) < 256 := ⟨by omega, by have := b1.toNat_lt; omega⟩
  have g2 : (0 : Int) ≤ b2.toNat ∧ (b2.toNat : Int) < 256 := ⟨by omega, by have := b2.toNat_lt; omega⟩
  have g3 : (0 : Int) ≤ b3.toNat ∧ (b3.toNat : Int) < 256 := ⟨by omega, by have := b3.toNat_lt; omega⟩
  have g4 : (0 : Int) ≤ b4.toNat ∧ (b4.toNat : Int) < 256 := ⟨by omega, by have := b4.toNat_lt; omega⟩
  generalize (b1.toNat : Int) = x1 at *
  generalize (b2.toNat : Int) = x2 at *
  generalize (b3.toNat : Int) = x3 at *
  generalize (b4.toNat : Int) = x4 at *
  obtain ⟨g1, l1⟩ := g1
  obtain ⟨g2, l2⟩ := g2
  obtain ⟨g3, l3⟩ := g3
  obtain ⟨g4, l4⟩ := g4
  go_enter Tryd.func85, Tryd.ntmps85
  go_upto_region 7 with fail
  go_cut [6] (fun s6 wx => ∃ blk a1 n1 c1 a2 n2 c2, s6 = .pointer (some ⟨blk, 0, none⟩) ∧ Blk wx blk #[.int .i64 (bits .or .i64 (bits .or .i64 (IntKind.i64.wrap x1) (IntKind.i64.wrap (IntKind.i64.wrap x2 * 256))) (IntKind.i64.wrap (IntKind.i64.wrap x3 * 65536))), .int .i64 (IntKind.i64.wrap x4), .slice a1 n1 c1, .slice a2 n2 c2] 42 ∧ Blk wx w.heap.size #[.int .i64 0, .int .i64 0, .slice none 0 0, .slice none 0 0] 42 ∧ blk ≠ w.heap.size ∧ Ext w wx ∧ n1 = LN.length ∧ n2 = LO.length ∧ NumsF wx w.heap.size a1 LN ∧ NumsF wx w.heap.size a2 LO)
  case first =>
    refine wp_region_held_drew (S := fun _ => True) (by kernel_rfl) trivial (fun hHeld => ?_)
    refine wpAnyH_take (i := 0) (v := ?_) rfl (by kernel_rfl) (by kernel_rfl) (by kernel_rfl) (fun _ _ _ h => h) (Or.inl ⟨by rfl, ?_⟩) trivial ?_
    rotate_left
    · intro w hSw; go_simp; try with_reducible rfl
    try simp only [Act.put, List.setIfInBounds_toArray]
    refine wpAnyH_take (i := 3) (v := ?_) rfl (by kernel_rfl) (by kernel_rfl) (by kernel_rfl) (fun _ _ _ h => h) (Or.inl ⟨by rfl, ?_⟩) trivial ?_
    rotate_left
    · intro w hSw; go_simp; try with_reducible rfl
    try simp only [Act.put]
    refine wpAnyH_take (i := 8) (v := ?_) rfl (by kernel_rfl) (by kernel_rfl) (by kernel_rfl) (fun _ _ _ h => h) (Or.inl ⟨by rfl, ?_⟩) trivial ?_
    rotate_left
    · intro w hSw; go_simp; try with_reducible rfl
    try simp only [Act.put]
    refine wpAnyH_take (i := 13) (v := ?_) rfl (by kernel_rfl) (by kernel_rfl) (by kernel_rfl) (fun _ _ _ h => h) (Or.inl ⟨by rfl, ?_⟩) trivial ?_
    rotate_left
    · intro w hSw; go_simp; try with_reducible rfl
    try simp only [Act.put]
    refine wpAnyH_take (i := 16) (v := ?_) rfl (by kernel_rfl) (by kernel_rfl) (by kernel_rfl) (fun _ _ _ h => h) (Or.inl ⟨by rfl, ?_⟩) trivial ?_
    rotate_left
    · intro w hSw; go_simp; try with_reducible rfl
    try simp only [Act.put]
    refine wpAnyH_take (i := 17) (v := ?_) rfl (by kernel_rfl) (by kernel_rfl) (by kernel_rfl) (fun _ _ _ h => h) (Or.inl ⟨by rfl, ?_⟩) trivial ?_
    rotate_left
    · intro w hSw; go_simp; try with_reducible rfl
    try simp only [Act.put]
    refine wpAnyH_take (i := 18) (v := ?_) rfl (by kernel_rfl) (by kernel_rfl) (by kernel_rfl) (fun _ _ _ h => h) (Or.inl ⟨by rfl, ?_⟩) trivial ?_
    rotate_left
    · intro w hSw; go_simp; try with_reducible rfl
    try simp only [Act.put]
    refine wpAnyH_take (i := 20) (v := ?_) rfl (by kernel_rfl) (by kernel_rfl) (by kernel_rfl) (fun _ _ _ h => h) (Or.inl ⟨by rfl, ?_⟩) trivial ?_
    rotate_left
    · intro w hSw; go_simp; try with_reducible rfl
    try simp only [Act.put]
    refine wpAnyH_take (i := 21) (v := ?_) rfl (by kernel_rfl) (by kernel_rfl) (by kernel_rfl) (fun _ _ _ h => h) (Or.inl ⟨by rfl, ?_⟩) trivial ?_
    rotate_left
    · intro w hSw; go_simp; try with_reducible rfl
    try simp only [Act.put]
    refine wpAnyH_take (i := 22) (v := ?_) rfl (by kernel_rfl) (by kernel_rfl) (by kernel_rfl) (fun _ _ _ h => h) (Or.inl ⟨by rfl, ?_⟩) trivial ?_
    rotate_left
    · intro w hSw; go_simp; try with_reducible rfl
    try simp only [Act.put]
    refine wpAnyH_take (i := 23) (v := ?_) rfl (by kernel_rfl) (by kernel_rfl) (by kernel_rfl) (fun _ _ _ h => h) (Or.inl ⟨by rfl, ?_⟩) trivial ?_
    rotate_left
    · intro w hSw; go_simp; try with_reducible rfl
    try simp only [Act.put]
    refine wpAnyH_take (i := 1) (v := ?_) rfl (by kernel_rfl) (by kernel_rfl) (by kernel_rfl) (fun _ _ _ h => h) (Or.inl ⟨by rfl, ?_⟩) trivial ?_
    rotate_left
    · intro w hSw; go_simp; try with_reducible rfl
    try simp only [Act.put]
    refine wpAnyH_take (i := 4) (v := ?_) rfl (by kernel_rfl) (by kernel_rfl) (by kernel_rfl) (fun _ _ _ h => h) (Or.inl ⟨by rfl, ?_⟩) trivial ?_
    rotate_left
    · intro w hSw; go_simp; try with_reducible rfl
    try simp only [Act.put]
    refine wpAnyH_take (i := 9) (v := ?_) rfl (by kernel_rfl) (by kernel_rfl) (by kernel_rfl) (fun _ _ _ h => h) (Or.inl ⟨by rfl, ?_⟩) trivial ?_
    rotate_left
    · intro w hSw; go_simp; try with_reducible rfl
    try simp only [Act.put]
    refine wpAnyH_take (i := 14) (v := ?_) rfl (by kernel_rfl) (by kernel_rfl) (by kernel_rfl) (fun _ _ _ h => h) (Or.inl ⟨by rfl, ?_⟩) trivial ?_
    rotate_left
    · intro w hSw; go_simp; try with_reducible rfl
    try simp only [Act.put]
    refine wpAnyH_take (i := 2) (v := ?_) rfl (by kernel_rfl) (by kernel_rfl) (by kernel_rfl) (fun _ _ _ h => h) (Or.inl ⟨by rfl, ?_⟩) trivial ?_
    rotate_left
    · intro w hSw; go_simp; try with_reducible rfl
    try simp only [Act.put]
    refine wpAnyH_take (i := 5) (v := ?_) rfl (by kernel_rfl) (by kernel_rfl) (by kernel_rfl) (fun _ _ _ h => h) (Or.inl ⟨by rfl, ?_⟩) trivial ?_
    rotate_left
    · intro w hSw; go_simp; try with_reducible rfl
    try simp only [Act.put]
    refine wpAnyH_take (i := 6) (v := ?_) rfl (by kernel_rfl) (by kernel_rfl) (by kernel_rfl) (fun _ _ _ h => h) (Or.inl ⟨by rfl, ?_⟩) trivial ?_
    rotate_left
    · intro w hSw; go_simp; try with_reducible rfl
    try simp only [Act.put]
    refine wpAnyH_take (i := 7) (v := ?_) rfl (by kernel_rfl) (by kernel_rfl) (by kernel_rfl) (fun _ _ _ h => h) (Or.inl ⟨by rfl, ?_⟩) trivial ?_
    rotate_left
    · intro w hSw; go_simp; try with_reducible rfl
    try simp only [Act.put]
    refine wpAnyH_take (i := 10) (v := ?_) rfl (by kernel_rfl) (by kernel_rfl) (by kernel_rfl) (fun _ _ _ h => h) (Or.inl ⟨by rfl, ?_⟩) trivial ?_
    rotate_left
    · intro w hSw; go_simp; try with_reducible rfl
    try simp only [Act.put]
    refine wpAnyH_take (i := 11) (v := ?_) rfl (by kernel_rfl) (by kernel_rfl) (by kernel_rfl) (fun _ _ _ h => h) (Or.inl ⟨by rfl, ?_⟩) trivial ?_
    rotate_left
    · intro w hSw; go_simp; try with_reducible rfl
    try simp only [Act.put]
    refine wpAnyH_take (i := 12) (v := ?_) rfl (by kernel_rfl) (by kernel_rfl) (by kernel_rfl) (fun _ _ _ h => h) (Or.inl ⟨by rfl, ?_⟩) trivial ?_
    rotate_left
    · intro w hSw; go_simp; try with_reducible rfl
    try simp only [Act.put]
    refine wpAnyH_take (i := 15) (v := ?_) rfl (by kernel_rfl) (by kernel_rfl) (by kernel_rfl) (fun _ _ _ h => h) (Or.inl ⟨by rfl, ?_⟩) trivial ?_
    rotate_left
    · intro w hSw; go_simp; try with_reducible rfl
    try simp only [Act.put]
    refine wpAnyH_ready (rs := [19, 26]) (by kernel_rfl) (by simp) ?_
    refine AllReadyH.cons rfl (fun K hK => ?_) ?_
    · go_simp
      refine (CN _).mono ?_
      rintro e w2 ⟨a1, n1, c1, rfl, ha2⟩
      have hsz := fun k (h : k < _) => Nat.lt_of_lt_of_le h ha2.ext.size
      obtain ⟨hcc, hff⟩ := bcellM ha2.ext.below
      go_wp2_with fail
      refine hK.out _ _ trivial (fun hHeld => ?_)
      clear hK K
      try simp only [Act.put, List.setIfInBounds_toArray, List.set_cons_zero, List.set_cons_succ]
      refine wpAnyH_ready (rs := [24, 26]) (by kernel_rfl) (by simp) ?_
      refine AllReadyH.cons rfl (fun K hK => ?_) ?_
      · go_simp
        refine (CO _).mono ?_
        rintro e w3 ⟨a2, n2, c2, rfl, ha3⟩
        have hsz2 := fun k (h : k < _) => Nat.lt_of_lt_of_le h ha3.ext.size
        obtain ⟨hcc2, hff2⟩ := bcellM ha3.ext.below
        go_wp2_with fail
        refine hK.out _ _ trivial (fun hHeld => ?_)
        clear hK K
        try simp only [Act.put, List.setIfInBounds_toArray, List.set_cons_zero, List.set_cons_succ]
        refine wpAnyH_take (i := 25) (v := ?_) rfl (by kernel_rfl) (by kernel_rfl) (by kernel_rfl) (fun _ _ _ h => h) (Or.inl ⟨by rfl, ?_⟩) trivial ?_
        rotate_left
        · intro w hSw; go_simp; try with_reducible rfl
        try simp only [Act.put, List.setIfInBounds_toArray]
        refine wpAnyH_ready (rs := [26]) (by kernel_rfl) (by simp) ?_
        refine AllReadyH.cons rfl (fun K hK => ?_) ?_
        · go_simp
          refine hK.out _ _ trivial (fun hHeld => ?_)
          clear hK K
          try simp only [Act.put, List.setIfInBounds_toArray, List.set_cons_zero, List.set_cons_succ]
          refine wpAnyH_ready (rs := [27]) (by kernel_rfl) (by simp) ?_
          refine AllReadyH.cons rfl (fun K hK => ?_) ?_
          · go_simp
            refine hK.out _ _ trivial (fun hHeld => ?_)
            clear hK K
            try simp only [Act.put, List.setIfInBounds_toArray, List.set_cons_zero, List.set_cons_succ]
            refine wpAnyH_done (by kernel_rfl) ?_ _
            go_wp2_with fail
            go_meet
            refine ⟨_, a1, n1, c1, a2, n2, c2, rfl, ?_, ?_, Ne.symm ?_, ?_, ha2.len, ha3.len, ha2.go ?_ ?_, ha3.go ?_ ?_⟩
            all_goals go_light
            all_goals clear hcc hff hsz hcc2 hff2 hsz2 CN CO sl1 sl2 i0 i1 i2 i3 i4 i5 i6
            all_goals have hx2 := ha2.ext
            all_goals have hx3 := ha3.ext
            all_goals (repeat (first | with_reducible exact ha2.nums | with_reducible exact ha3.nums | with_reducible refine NumB.set ?_ ?_ _ | with_reducible refine NumB.ext hx3 ?_ | with_reducible refine NumB.ext (Ext.alloc (Ext.refl _) _) ?_ | with_reducible refine NumB.ext (Ext.drew (Ext.refl _)) ?_ | exact Or.inr (Nat.le_refl _) | (refine Or.inl ?_; have hq := hx2.size; simp only [size_allocM, size_drewM] at hq ⊢; omega) | (show (_ : Nat) < _; have hq := hx2.size; simp only [size_allocM, size_drewM] at hq ⊢; omega) | with_reducible exact Blk.new _ _ _ | with_reducible exact Ext.refl _ | with_reducible refine Blk.drew ?_ | with_reducible refine Ext.drew ?_ | with_reducible refine Blk.put4 (x := .int .i64 0) (y := .int .i64 0) (z := .slice none 0 0) (u := .slice none 0 0) ?_ | with_reducible refine Blk.other ?_ ?_ _ | with_reducible refine Ext.set ?_ ?_ _ | (with_reducible refine Blk.new' _ _ _ ?_; simp; done) | with_reducible refine Blk.alloc ?_ _ | with_reducible refine Ext.alloc ?_ _ | with_reducible refine Blk.ext hx3 ?_ | with_reducible refine Blk.ext hx2 ?_ | with_reducible refine Ext.trans ?_ hx3 | with_reducible refine Ext.trans ?_ hx2 | (show (_ : Nat) ≠ _; (try dsimp only); omega) | (show (_ : Nat) ≤ _; (try dsimp only); omega) | refine (Blk.ne_new (cs := #[.int .i64 0, .int .i64 0, .slice none 0 0, .slice none 0 0]) (t := 42) ?_) | refine Ext.size (a := w) ?_))
          exact AllReadyH.nil
        exact AllReadyH.nil
      refine AllReadyH.cons rfl (fun K hK => ?_) ?_
      · go_simp
        refine hK.out _ _ trivial (fun hHeld => ?_)
        clear hK K
        try simp only [Act.put, List.setIfInBounds_toArray, List.set_cons_zero, List.set_cons_succ]
        refine wpAnyH_ready (rs := [24]) (by kernel_rfl) (by simp) ?_
        refine AllReadyH.cons rfl (fun K hK => ?_) ?_
        · go_simp
          refine (CO _).mono ?_
          rintro e w3 ⟨a2, n2, c2, rfl, ha3⟩
          have hsz2 := fun k (h : k < _) => Nat.lt_of_lt_of_le h ha3.ext.size
          obtain ⟨hcc2, hff2⟩ := bcellM ha3.ext.below
          go_wp2_with fail
          refine hK.out _ _ trivial (fun hHeld => ?_)
          clear hK K
          try simp only [Act.put, List.setIfInBounds_toArray, List.set_cons_zero, List.set_cons_succ]
          refine wpAnyH_take (i := 25) (v := ?_) rfl (by kernel_rfl) (by kernel_rfl) (by kernel_rfl) (fun _ _ _ h => h) (Or.inl ⟨by rfl, ?_⟩) trivial ?_
          rotate_left
          · intro w hSw; go_simp; try with_reducible rfl
          try simp only [Act.put, List.setIfInBounds_toArray]
          refine wpAnyH_ready (rs := [27]) (by kernel_rfl) (by simp) ?_
          refine AllReadyH.cons rfl (fun K hK => ?_) ?_
          · go_simp
            refine hK.out _ _ trivial (fun hHeld => ?_)
            clear hK K
            try simp only [Act.put, List.setIfInBounds_toArray, List.set_cons_zero, List.set_cons_succ]
            refine wpAnyH_done (by kernel_rfl) ?_ _
            go_wp2_with fail
            go_meet
            refine ⟨_, a1, n1, c1, a2, n2, c2, rfl, ?_, ?_, Ne.symm ?_, ?_, ha2.len, ha3.len, ha2.go ?_ ?_, ha3.go ?_ ?_⟩
            all_goals go_light
            all_goals clear hcc hff hsz hcc2 hff2 hsz2 CN CO sl1 sl2 i0 i1 i2 i3 i4 i5 i6
            all_goals have hx2 := ha2.ext
            all_goals have hx3 := ha3.ext
            all_goals (repeat (first | with_reducible exact ha2.nums | with_reducible exact ha3.nums | with_reducible refine NumB.set ?_ ?_ _ | with_reducible refine NumB.ext hx3 ?_ | with_reducible refine NumB.ext (Ext.alloc (Ext.refl _) _) ?_ | with_reducible refine NumB.ext (Ext.drew (Ext.refl _)) ?_ | exact Or.inr (Nat.le_refl _) | (refine Or.inl ?_; have hq := hx2.size; simp only [size_allocM, size_drewM] at hq ⊢; omega) | (show (_ : Nat) < _; have hq := hx2.size; simp only [size_allocM, size_drewM] at hq ⊢; omega) | with_reducible exact Blk.new _ _ _ | with_reducible exact Ext.refl _ | with_reducible refine Blk.drew ?_ | with_reducible refine Ext.drew ?_ | with_reducible refine Blk.put4 (x := .int .i64 0) (y := .int .i64 0) (z := .slice none 0 0) (u := .slice none 0 0) ?_ | with_reducible refine Blk.other ?_ ?_ _ | with_reducible refine Ext.set ?_ ?_ _ | (with_reducible refine Blk.new' _ _ _ ?_; simp; done) | with_reducible refine Blk.alloc ?_ _ | with_reducible refine Ext.alloc ?_ _ | with_reducible refine Blk.ext hx3 ?_ | with_reducible refine Blk.ext hx2 ?_ | with_reducible refine Ext.trans ?_ hx3 | with_reducible refine Ext.trans ?_ hx2 | (show (_ : Nat) ≠ _; (try dsimp only); omega) | (show (_ : Nat) ≤ _; (try dsimp only); omega) | refine (Blk.ne_new (cs := #[.int .i64 0, .int .i64 0, .slice none 0 0, .slice none 0 0]) (t := 42) ?_) | refine Ext.size (a := w) ?_))
          exact AllReadyH.nil
        exact AllReadyH.nil
      exact AllReadyH.nil
    refine AllReadyH.cons rfl (fun K hK => ?_) ?_
    · go_simp
      refine hK.out _ _ trivial (fun hHeld => ?_)
      clear hK K
      try simp only [Act.put, List.setIfInBounds_toArray, List.set_cons_zero, List.set_cons_succ]
      refine wpAnyH_ready (rs := [19]) (by kernel_rfl) (by simp) ?_
      refine AllReadyH.cons rfl (fun K hK => ?_) ?_
      · go_simp
        refine (CN _).mono ?_
        rintro e w2 ⟨a1, n1, c1, rfl, ha2⟩
        have hsz := fun k (h : k < _) => Nat.lt_of_lt_of_le h ha2.ext.size
        obtain ⟨hcc, hff⟩ := bcellM ha2.ext.below
        go_wp2_with fail
        refine hK.out _ _ trivial (fun hHeld => ?_)
        clear hK K
        try simp only [Act.put, List.setIfInBounds_toArray, List.set_cons_zero, List.set_cons_succ]
        refine wpAnyH_ready (rs := [24]) (by kernel_rfl) (by simp) ?_
        refine AllReadyH.cons rfl (fun K hK => ?_) ?_
        · go_simp
          refine (CO _).mono ?_
          rintro e w3 ⟨a2, n2, c2, rfl, ha3⟩
          have hsz2 := fun k (h : k < _) => Nat.lt_of_lt_of_le h ha3.ext.size
          obtain ⟨hcc2, hff2⟩ := bcellM ha3.ext.below
          go_wp2_with fail
          refine hK.out _ _ trivial (fun hHeld => ?_)
          clear hK K
          try simp only [Act.put, List.setIfInBounds_toArray, List.set_cons_zero, List.set_cons_succ]
          refine wpAnyH_take (i := 25) (v := ?_) rfl (by kernel_rfl) (by kernel_rfl) (by kernel_rfl) (fun _ _ _ h => h) (Or.inl ⟨by rfl, ?_⟩) trivial ?_
          rotate_left
          · intro w hSw; go_simp; try with_reducible rfl
          try simp only [Act.put, List.setIfInBounds_toArray]
          refine wpAnyH_ready (rs := [27]) (by kernel_rfl) (by simp) ?_
          refine AllReadyH.cons rfl (fun K hK => ?_) ?_
          · go_simp
            refine hK.out _ _ trivial (fun hHeld => ?_)
            clear hK K
            try simp only [Act.put, List.setIfInBounds_toArray, List.set_cons_zero, List.set_cons_succ]
            refine wpAnyH_done (by kernel_rfl) ?_ _
            go_wp2_with fail
            go_meet
            refine ⟨_, a1, n1, c1, a2, n2, c2, rfl, ?_, ?_, Ne.symm ?_, ?_, ha2.len, ha3.len, ha2.go ?_ ?_, ha3.go ?_ ?_⟩
            all_goals go_light
            all_goals clear hcc hff hsz hcc2 hff2 hsz2 CN CO sl1 sl2 i0 i1 i2 i3 i4 i5 i6
            all_goals have hx2 := ha2.ext
            all_goals have hx3 := ha3.ext
            all_goals (repeat (first | with_reducible exact ha2.nums | with_reducible exact ha3.nums | with_reducible refine NumB.set ?_ ?_ _ | with_reducible refine NumB.ext hx3 ?_ | with_reducible refine NumB.ext (Ext.alloc (Ext.refl _) _) ?_ | with_reducible refine NumB.ext (Ext.drew (Ext.refl _)) ?_ | exact Or.inr (Nat.le_refl _) | (refine Or.inl ?_; have hq := hx2.size; simp only [size_allocM, size_drewM] at hq ⊢; omega) | (show (_ : Nat) < _; have hq := hx2.size; simp only [size_allocM, size_drewM] at hq ⊢; omega) | with_reducible exact Blk.new _ _ _ | with_reducible exact Ext.refl _ | with_reducible refine Blk.drew ?_ | with_reducible refine Ext.drew ?_ | with_reducible refine Blk.put4 (x := .int .i64 0) (y := .int .i64 0) (z := .slice none 0 0) (u := .slice none 0 0) ?_ | with_reducible refine Blk.other ?_ ?_ _ | with_reducible refine Ext.set ?_ ?_ _ | (with_reducible refine Blk.new' _ _ _ ?_; simp; done) | with_reducible refine Blk.alloc ?_ _ | with_reducible refine Ext.alloc ?_ _ | with_reducible refine Blk.ext hx3 ?_ | with_reducible refine Blk.ext hx2 ?_ | with_reducible refine Ext.trans ?_ hx3 | with_reducible refine Ext.trans ?_ hx2 | (show (_ : Nat) ≠ _; (try dsimp only); omega) | (show (_ : Nat) ≤ _; (try dsimp only); omega) | refine (Blk.ne_new (cs := #[.int .i64 0, .int .i64 0, .slice none 0 0, .slice none 0 0]) (t := 42) ?_) | refine Ext.size (a := w) ?_))
          exact AllReadyH.nil
        exact AllReadyH.nil
      exact AllReadyH.nil
    exact AllReadyH.nil
  case rest =>
    obtain ⟨blk, a1, n1, c1, a2, n2, c2, rfl, hB, hR, hne, hx, rfl, rfl, hN1, hN2⟩ := hcut
    rw [ep_sum x1 x2 x3 g1 l1 g2 l2 g3 l3, wrap_small x4 g4 (by omega)] at hB
    obtain ⟨ep, hep⟩ : ∃ ep, ep = x1 + 256 * x2 + 65536 * x3 := ⟨_, rfl⟩
    rw [← hep] at hB
    have HEP : Hid (ep = x1 + 256 * x2 + 65536 * x3) := hep
    clear hep
    have c0 : _ = some (Value.int .i64 ep) := hB.cell 0
    have c1' : _ = some (Value.int .i64 x4) := hB.cell 1
    have c2' : _ = some (Value.slice a1 LN.length c1) := hB.cell 2
    have c3 : _ = some (Value.slice a2 LO.length c2) := hB.cell 3
    have hlt2 := hB.lt
    have hLL' := hLL
    clear i0 i1 i2 i3 i4 i5 i6 sl1 sl2 CN CO
    have HC := manCheck_any ep x4 a1 a2 c1 c2 LN LO _ hLL' hN1.at hN2.at
    unfold errN at HC
    by_cases HF : manF ep x4 LN LO = 0
    · have HH : Hid (manF ep x4 LN LO = 0) := HF
      rw [if_pos HF] at HC
      have HCC := HC
      clear HF HC
      go_wp2_with (go_at_call 90; refine HCC.mono ?_; rintro e w2 ⟨rfl, hx2⟩; have hB2 := Blk.ext hx2 hB; have hR2 := Blk.ext hx2 hR; have c0 : _ = some (Value.int .i64 ep) := hB2.cell 0; have c1' : _ = some (Value.int .i64 x4) := hB2.cell 1; have c2' : _ = some (Value.slice a1 LN.length c1) := hB2.cell 2; have c3 : _ = some (Value.slice a2 LO.length c2) := hB2.cell 3; have r0 : _ = some (Value.int .i64 0) := hR2.cell 0; have r1 : _ = some (Value.int .i64 0) := hR2.cell 1; have r2 : _ = some (Value.slice none 0 0) := hR2.cell 2; have r3 : _ = some (Value.slice none 0 0) := hR2.cell 3; have f0 := hR2.free 0; have f1 := hR2.free 1; have f2 := hR2.free 2; have f3 := hR2.free 3; have hlt := hR2.lt; have hlt2 := hB2.lt)
      have q1 := ((((NumsF.ext hx2 hN1).set 0 (.int .i64 ep)).set 1 (.int .i64 x4)).set 2 (.slice a1 LN.length c1)).set 3 (.slice a2 LO.length c2)
      have q2 := ((((NumsF.ext hx2 hN2).set 0 (.int .i64 ep)).set 1 (.int .i64 x4)).set 2 (.slice a1 LN.length c1)).set 3 (.slice a2 LO.length c2)
      refine bodyPost_ret (v := .tuple #[.agg #[.int .i64 ep, .int .i64 x4, .slice a1 LN.length c1, .slice a2 LO.length c2], .nilIface]) (by simp [results, go_sem, r0, r1, r2, r3]) rfl (.inl ⟨by rw [← HEP.out]; exact HH.out, a1, c1, a2, c2, by rw [HEP.out], q1, q2, ?_⟩)
      refine Ext.set (Ext.set (Ext.set (Ext.set (hx.trans hx2) ?_ _) ?_ _) ?_ _) ?_ _ <;> exact Nat.le_refl _
    · rw [if_neg HF] at HC
      have HCC := HC
      have HH : Hid (¬ manF ep x4 LN LO = 0) := HF
      clear HF HC
      go_wp2_with (go_at_call 90; refine HCC.mono ?_; rintro e w2 ⟨rfl, hx2⟩; have hB2 := Blk.ext hx2 hB; have hR2 := Blk.ext hx2 hR; have c0 : _ = some (Value.int .i64 ep) := hB2.cell 0; have c1' : _ = some (Value.int .i64 x4) := hB2.cell 1; have c2' : _ = some (Value.slice a1 LN.length c1) := hB2.cell 2; have c3 : _ = some (Value.slice a2 LO.length c2) := hB2.cell 3; have r0 : _ = some (Value.int .i64 0) := hR2.cell 0; have r1 : _ = some (Value.int .i64 0) := hR2.cell 1; have r2 : _ = some (Value.slice none 0 0) := hR2.cell 2; have r3 : _ = some (Value.slice none 0 0) := hR2.cell 3; have f0 := hR2.free 0; have f1 := hR2.free 1; have f2 := hR2.free 2; have f3 := hR2.free 3; have hlt := hR2.lt; have hlt2 := hB2.lt)
      refine bodyPost_ret (v := .tuple #[.agg #[.int .i64 0, .int .i64 0, .slice none 0 0, .slice none 0 0], .iface 62 (.int .i64 4)]) (by simp [results, go_sem, r0, r1, r2, r3]) rfl (.inr ⟨by rw [← HEP.out]; exact HH.out, rfl, ?_⟩)
      refine Ext.set (Ext.set (Ext.set (Ext.set (hx.trans hx2) ?_ _) ?_ _) ?_ _) ?_ _ <;> exact Nat.le_refl _
end Go.Proofs.YtkibgflbidkalaaDoor

/- Manifests: what is written is read. -/
namespace Go.Proofs.YtkibgflbidkalaaDoor
open Go.RowKit Go.WideShapes

theorem numsOf_byt {l : List Int} (h : ∀ x ∈ l, 2 ≤ x ∧ x < 24) : numsOf (l.map byt) = l := by
  induction l with
  | nil => rfl
  | cons x r ih =>
    have hx := h x (by simp)
    obtain ⟨n, rfl⟩ := Int.eq_ofNat_of_zero_le (show 0 ≤ x by omega)
    show ((byt (n : Int)).toNat : Int) :: numsOf (r.map byt) = _
    rw [byt_nat n (by omega), ih (fun y hy => h y (by simp [hy]))]
theorem encM_size (E G : Int) (nw od : List Int) (z : Nat) : (txtM (encM E G nw od ++ List.replicate z 0)).size = 7 + nw.length + od.length + z := by
  rw [Lib.size_eq]; simp [txtM, encM]; omega
theorem extM_data (l : List UInt8) (i j : Nat) : ((txtM l).extract i j).data.toList = (l.drop i).take (j - i) := by
  rw [Lib.extract_data]; rfl

theorem parse_encM (E G : Nat) (nw od : List Int) (z : Nat) (w : World) (hz : z ≤ 31) (hf : manF (E : Int) (G : Int) nw od = 0) :
    Calls Tryd.prog 85 #[.string (txtM (encM (E : Int) (G : Int) nw od ++ List.replicate z 0))] w fun e w' => ∃ a1 c1 a2 c2, e = .returned (.tuple #[.agg #[.int .i64 (E : Int), .int .i64 (G : Int), .slice a1 nw.length c1, .slice a2 od.length c2], .nilIface]) ∧ NumsAt w' a1 nw ∧ NumsAt w' a2 od ∧ Ext w w' := by
  obtain ⟨hE, hS⟩ := manF_zero hf
  obtain ⟨hr, hnd, _⟩ := scan_zero hS
  have h24 := nodup_le hr hnd
  have hG := hr (G : Int) (by simp)
  have hrn : ∀ x ∈ nw, 2 ≤ x ∧ x < 24 := fun x hx => hr x (by simp [hx])
  have hro : ∀ x ∈ od, 2 ≤ x ∧ x < 24 := fun x hx => hr x (by simp [hx])
  have hle : nw.length + od.length ≤ 23 := by simp at h24; omega
  have hsz := encM_size (E : Int) (G : Int) nw od z
  have en : (UInt8.ofNat nw.length).toNat = nw.length := by simp; omega
  have eo : (UInt8.ofNat od.length).toNat = od.length := by simp; omega
  have x1 : ((byt ((E : Int) % 256)).toNat : Int) = (E : Int) % 256 := by
    have := byt_nat (E % 256) (by omega); simpa using this
  have x2 : ((byt ((E : Int) / 256 % 256)).toNat : Int) = (E : Int) / 256 % 256 := by
    have := byt_nat (E / 256 % 256) (by omega); simpa using this
  have x3 : ((byt ((E : Int) / 65536)).toNat : Int) = (E : Int) / 65536 := by
    have := byt_nat (E / 65536) (by omega); simpa using this
  have x4 := byt_nat G (by omega)
  have := parseM_in (txtM (encM (E : Int) (G : Int) nw od ++ List.replicate z 0)) w (byt ((E : Int) % 256)) (byt ((E : Int) / 256 % 256)) (byt ((E : Int) / 65536)) (byt (G : Int)) (UInt8.ofNat nw.length) (UInt8.ofNat od.length)
    (by omega) (by omega) rfl rfl rfl rfl rfl rfl rfl (by omega)
  rw [en, eo, x1, x2, x3, x4, extM_data, extM_data] at this
  have d1 : ((encM (E : Int) (G : Int) nw od ++ List.replicate z 0).drop 7).take (7 + nw.length - 7) = nw.map byt := by
    rw [show 7 + nw.length - 7 = (nw.map byt).length by simp]; simp [encM, -List.length_map]
  have d2 : ((encM (E : Int) (G : Int) nw od ++ List.replicate z 0).drop (7 + nw.length)).take (7 + nw.length + od.length - (7 + nw.length)) = od.map byt := by
    rw [← List.drop_drop, show 7 + nw.length + od.length - (7 + nw.length) = (od.map byt).length by simp, show nw.length = (nw.map byt).length by simp]; simp [encM, -List.length_map]
  rw [d1, d2, numsOf_byt hrn, numsOf_byt hro, show (E : Int) % 256 + 256 * ((E : Int) / 256 % 256) + 65536 * ((E : Int) / 65536) = (E : Int) by omega] at this
  refine this.mono ?_
  rintro e w' (⟨_, a1, c1, a2, c2, h1, h2, h3, h4⟩ | ⟨h, _⟩)
  · exact ⟨a1, c1, a2, c2, h1, h2.at, h3.at, h4⟩
  · exact absurd hf h

end Go.Proofs.YtkibgflbidkalaaDoor

/- Manifests: Parse, of any text. -/
namespace Go.Proofs.YtkibgflbidkalaaDoor
open Go.RowKit Go.WideShapes
attribute [local go_sem ↓] Go.wp_at_zero Go.wp_at_succ

/-- A manifest. -/
structure Man where
  ep : Int
  lg : Int
  nw : List Int
  od : List Int
def manFault (m : Man) : Int := manF m.ep m.lg m.nw m.od
def byteL (l : List UInt8) (i : Nat) : Nat := (l.getD i 0).toNat
/-- The manifest that bytes tell of, whether it may be or not. -/
def rawM (l : List UInt8) : Man :=
  ⟨(byteL l 1 : Int) + 256 * (byteL l 2 : Int) + 65536 * (byteL l 3 : Int), (byteL l 4 : Int), numsOf ((l.drop 7).take (byteL l 5)), numsOf ((l.drop (7 + byteL l 5)).take (byteL l 6))⟩
def parseB (l : List UInt8) : Option Man :=
  if 7 ≤ l.length ∧ byteL l 0 = 77 ∧ 7 + byteL l 5 + byteL l 6 ≤ l.length ∧ manFault (rawM l) = 0 then some (rawM l) else none
/-- A manifest as a value, its numbers behind block g. -/
def ManV (W : World) (g : Nat) (m : Man) (v : Value) : Prop := ∃ a1 c1 a2 c2, v = .agg #[.int .i64 m.ep, .int .i64 m.lg, .slice a1 m.nw.length c1, .slice a2 m.od.length c2] ∧ NumsF W g a1 m.nw ∧ NumsF W g a2 m.od
theorem ManV.ext {W W' : World} {g : Nat} {m : Man} {v : Value} (h : ManV W g m v) (hx : Ext W W') : ManV W' g m v := by
  obtain ⟨a1, c1, a2, c2, e, h1, h2⟩ := h
  exact ⟨a1, c1, a2, c2, e, NumsF.ext hx h1, NumsF.ext hx h2⟩
theorem ManV.mono {W : World} {g g' : Nat} {m : Man} {v : Value} (h : ManV W g m v) (hg : g' ≤ g) : ManV W g' m v := by
  obtain ⟨a1, c1, a2, c2, e, h1, h2⟩ := h
  exact ⟨a1, c1, a2, c2, e, h1.mono hg, h2.mono hg⟩
def zeroV : Value := .agg #[.int .i64 0, .int .i64 0, .slice none 0 0, .slice none 0 0]
def PEnd (w w' : World) (e : Ending) (o : Option Man) : Prop :=
  (∃ m v, o = some m ∧ e = .returned (.tuple #[v, .nilIface]) ∧ ManV w' w.heap.size m v ∧ Ext w w') ∨ (o = none ∧ e = .returned (.tuple #[zeroV, .iface 62 (.int .i64 4)]) ∧ Ext w w')
theorem byteL_get (s : ByteArray) (i : Nat) (h : i < s.size) : byteL s.data.toList i = s[i].toNat := by
  unfold byteL
  rw [List.getD_eq_getElem?_getD, List.getElem?_eq_getElem (by simpa using h)]
  rfl

set_option maxRecDepth 20000 in
set_option maxHeartbeats 1000000 in
theorem parseM_short (s : ByteArray) (w : World) (h : s.size < 7) :
    Calls Tryd.prog 85 #[.string s] w fun e w' => e = .returned (.tuple #[zeroV, .iface 62 (.int .i64 4)]) ∧ Ext w w' := by
  have h' : (s.size : Int) < 7 := by omega
  go_enter Tryd.func85, Tryd.ntmps85
  go_wp2
  refine bodyPost_ret (v := .tuple #[zeroV, .iface 62 (.int .i64 4)]) (by simp [results, go_sem, zeroV]) rfl ⟨rfl, ?_⟩
  exact (Ext.refl w).alloc _
set_option maxRecDepth 20000 in
set_option maxHeartbeats 1000000 in
theorem parseM_mark (s : ByteArray) (w : World) (h7 : 7 ≤ s.size) (h : ¬ s[0].toNat = 77) :
    Calls Tryd.prog 85 #[.string s] w fun e w' => e = .returned (.tuple #[zeroV, .iface 62 (.int .i64 4)]) ∧ Ext w w' := by
  have h' : ¬ (s.size : Int) < 7 := by omega
  have hp : 0 < s.size := by omega
  have ix : ∀ W : World, (Instr.index 9 (.string s) (.int .i64 0)).run Tryd.prog W = .ok (.int .u8 (s[0].toNat : Int)) W := fun W => by
    simp [go_sem, Tryd.underlying9, hp]
  have h'' : ¬ (s[0].toNat : Int) = 77 := by omega
  generalize (s[0].toNat : Int) = x at *
  clear h
  go_enter Tryd.func85, Tryd.ntmps85
  go_wp2
  refine bodyPost_ret (v := .tuple #[zeroV, .iface 62 (.int .i64 4)]) (by simp [results, go_sem, zeroV]) rfl ⟨rfl, ?_⟩
  exact (Ext.refl w).alloc _
set_option maxRecDepth 20000 in
set_option maxHeartbeats 1000000 in
theorem parseM_far (s : ByteArray) (w : World) (h7 : 7 ≤ s.size) (hs : s.size ≤ 1000) (h : s[0].toNat = 77) (hf : ¬ 7 + s[5].toNat + s[6].toNat ≤ s.size) :
    Calls Tryd.prog 85 #[.string s] w fun e w' => e = .returned (.tuple #[zeroV, .iface 62 (.int .i64 4)]) ∧ Ext w w' := by
  have h' : ¬ (s.size : Int) < 7 := by omega
  have hp : 0 < s.size := by omega
  have hp5 : (5 : Int) < s.size := by omega
  have hp6 : (6 : Int) < s.size := by omega
  have ix : ∀ W : World, (Instr.index 9 (.string s) (.int .i64 0)).run Tryd.prog W = .ok (.int .u8 77) W := fun W => by
    simp [go_sem, Tryd.underlying9, hp, h]
  have ix5 : ∀ W : World, (Instr.index 9 (.string s) (.int .i64 5)).run Tryd.prog W = .ok (.int .u8 (s[5].toNat : Int)) W := fun W => by
    simp [go_sem, Tryd.underlying9, hp5]
  have ix6 : ∀ W : World, (Instr.index 9 (.string s) (.int .i64 6)).run Tryd.prog W = .ok (.int .u8 (s[6].toNat : Int)) W := fun W => by
    simp [go_sem, Tryd.underlying9, hp6]
  have l5 := s[5].toNat_lt
  have l6 := s[6].toNat_lt
  generalize s[5].toNat = x5 at *
  generalize s[6].toNat = x6 at *
  have hf' : (s.size : Int) < 7 + (x5 : Int) + (x6 : Int) := by omega
  clear h
  go_enter Tryd.func85, Tryd.ntmps85
  go_wp2
  refine bodyPost_ret (v := .tuple #[zeroV, .iface 62 (.int .i64 4)]) (by simp [results, go_sem, zeroV]) rfl ⟨rfl, ?_⟩
  exact (Ext.refl w).alloc _

theorem parseM_any (s : ByteArray) (w : World) (hs : s.size ≤ 100) :
    Calls Tryd.prog 85 #[.string s] w fun e w' => PEnd w w' e (parseB s.data.toList) := by
  have hl : s.data.toList.length = s.size := (Lib.size_eq s).symm
  by_cases h7 : 7 ≤ s.size
  · by_cases h0 : s[0].toNat = 77
    · by_cases hf : 7 + s[5].toNat + s[6].toNat ≤ s.size
      · have h0' : s[0] = 77 := by
          apply UInt8.toNat_inj.1; rw [h0]; rfl
        refine (parseM_in s w s[1] s[2] s[3] s[4] s[5] s[6] hs h7 h0' rfl rfl rfl rfl rfl rfl hf).mono ?_
        have hr : rawM s.data.toList = ⟨(s[1].toNat : Int) + 256 * (s[2].toNat : Int) + 65536 * (s[3].toNat : Int), (s[4].toNat : Int), numsOf (s.extract 7 (7 + s[5].toNat)).data.toList, numsOf (s.extract (7 + s[5].toNat) (7 + s[5].toNat + s[6].toNat)).data.toList⟩ := by
          unfold rawM
          rw [byteL_get s 1 (by omega), byteL_get s 2 (by omega), byteL_get s 3 (by omega), byteL_get s 4 (by omega), byteL_get s 5 (by omega), byteL_get s 6 (by omega), Lib.extract_data, Lib.extract_data]
          rw [show 7 + s[5].toNat - 7 = s[5].toNat by omega, show 7 + s[5].toNat + s[6].toNat - (7 + s[5].toNat) = s[6].toNat by omega]
          rfl
        have hc : 7 ≤ s.data.toList.length ∧ byteL s.data.toList 0 = 77 ∧ 7 + byteL s.data.toList 5 + byteL s.data.toList 6 ≤ s.data.toList.length := by
          rw [hl, byteL_get s 0 (by omega), byteL_get s 5 (by omega), byteL_get s 6 (by omega)]
          exact ⟨h7, h0, hf⟩
        rintro e w' (⟨h, a1, c1, a2, c2, rfl, q1, q2, hx⟩ | ⟨h, rfl, hx⟩)
        · refine .inl ⟨rawM s.data.toList, _, ?_, rfl, ?_, hx⟩
          · unfold parseB; rw [if_pos ⟨hc.1, hc.2.1, hc.2.2, by unfold manFault; rw [hr]; exact h⟩]
          · rw [hr]; exact ⟨a1, c1, a2, c2, rfl, q1, q2⟩
        · refine .inr ⟨?_, rfl, hx⟩
          unfold parseB; rw [if_neg (fun k => h (by have := k.2.2.2; unfold manFault at this; rw [hr] at this; exact this))]
      · refine (parseM_far s w h7 (by omega) h0 hf).mono ?_
        rintro e w' ⟨rfl, hx⟩
        refine .inr ⟨?_, rfl, hx⟩
        unfold parseB; rw [if_neg (fun k => hf (by have := k.2.2.1; rw [hl, byteL_get s 5 (by omega), byteL_get s 6 (by omega)] at this; exact this))]
    · refine (parseM_mark s w h7 h0).mono ?_
      rintro e w' ⟨rfl, hx⟩
      refine .inr ⟨?_, rfl, hx⟩
      unfold parseB; rw [if_neg (fun k => h0 (by have := k.2.1; rw [byteL_get s 0 (by omega)] at this; exact this))]
  · refine (parseM_short s w (by omega)).mono ?_
    rintro e w' ⟨rfl, hx⟩
    refine .inr ⟨?_, rfl, hx⟩
    unfold parseB; rw [if_neg (fun k => h7 (by have := k.1; omega))]
end Go.Proofs.YtkibgflbidkalaaDoor
