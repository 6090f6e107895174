
/- Manifests: what the document's ManifestBytes answers. -/
import Derived.Test.YtpldeejagomfjaaManR
namespace Go.Proofs.Ytpldeejagomfjaa
open Go.RowKit Go.WideShapes
attribute [local go_sem ↓] Go.wp_at_zero Go.wp_at_succ

theorem conv_new (w : World) (l : List UInt8) (cap : Nat) : (convert 125 9 (.slice (some ⟨w.heap.size, 0, none⟩) l.length cap)).run Try.prog (w.alloc (.cells (Lib.byteCells l).toArray 5)) = .ok (.string (txtM l)) (w.alloc (.cells (Lib.byteCells l).toArray 5)) :=
  run_convert_bytes_back (P := Try.prog) _ 125 9 5 ⟨w.heap.size, 0, none⟩ cap l Try.underlying125 Try.underlying5 Try.underlying9 (fun j hj => by
    rw [add_plain, Nat.zero_add, (Blk.new w _ _).cell]; simp [Lib.byteCells, hj])
theorem txtM_app (a b : List UInt8) : txtM a ++ txtM b = txtM (a ++ b) := by
  have h : ∀ {a b : ByteArray}, a.data.toList = b.data.toList → a = b := fun {a b} h => by cases a; cases b; simp only [ByteArray.mk.injEq]; exact Array.toList_inj.1 h
  apply h
  simp [txtM]
theorem txtM_size (l : List UInt8) : (txtM l).size = l.length := by rw [Lib.size_eq]; simp [txtM]

def hd6 (ep lg : Int) (nw od : List Int) : List UInt8 := [byt (ep % 256), byt (ep / 256 % 256), byt (ep / 65536), byt lg, UInt8.ofNat nw.length, UInt8.ofNat od.length]
theorem hd6_cells (E G : Nat) (nw od : List Int) (hE : E ≤ 100000) (hG : G < 24) (hn : nw.length < 256) (ho : od.length < 256) :
    (Lib.byteCells (hd6 (E : Int) (G : Int) nw od)).toArray = #[.int .u8 ((E : Int) % 256), .int .u8 ((E : Int) / 256 % 256), .int .u8 ((E : Int) / 65536), .int .u8 (G : Int), .int .u8 (nw.length : Int), .int .u8 (od.length : Int)] := by
  have e1 : ((byt ((E : Int) % 256)).toNat : Int) = (E : Int) % 256 := by
    have := byt_nat (E % 256) (by omega); simpa using this
  have e2 : ((byt ((E : Int) / 256 % 256)).toNat : Int) = (E : Int) / 256 % 256 := by
    have := byt_nat (E / 256 % 256) (by omega); simpa using this
  have e3 : ((byt ((E : Int) / 65536)).toNat : Int) = (E : Int) / 65536 := by
    have := byt_nat (E / 65536) (by omega); simpa using this
  have e4 := byt_nat G (by omega)
  have e5 : ((UInt8.ofNat nw.length).toNat : Int) = (nw.length : Int) := by simp; omega
  have e6 : ((UInt8.ofNat od.length).toNat : Int) = (od.length : Int) := by simp; omega
  simp only [Lib.byteCells, hd6, List.map_cons, List.map_nil, e1, e2, e3, e4, e5, e6]
set_option maxRecDepth 20000 in
set_option maxHeartbeats 2000000 in
theorem refBytes_ok (E G : Nat) (no oo : Option Addr) (nc oc : Nat) (nw od : List Int) (w : World) (hl : nw.length + od.length ≤ 100) (hn : NumsAt w no nw) (ho : NumsAt w oo od) (hf : manF (E : Int) (G : Int) nw od = 0) :
    Calls Try.prog 71 #[.agg #[.int .i64 (E : Int), .int .i64 (G : Int), .slice no nw.length nc, .slice oo od.length oc]] w fun e w' => e = .returned (.tuple #[.string (txtM (encM (E : Int) (G : Int) nw od)), .int .i64 0]) ∧ Ext w w' := by
  obtain ⟨hE, hS⟩ := manF_zero hf
  obtain ⟨hr, _, _⟩ := scan_zero hS
  have hG := hr (G : Int) (by simp)
  have HRN : Hid (∀ x ∈ nw, 2 ≤ x ∧ x < 24) := fun x hx => hr x (by simp [hx])
  have HRO : Hid (∀ x ∈ od, 2 ≤ x ∧ x < 24) := fun x hx => hr x (by simp [hx])
  have HC : Hid (∀ o, Calls Try.prog 75 #[.agg #[.int .i64 (E : Int), .int .i64 (G : Int), .slice no nw.length nc, .slice oo od.length oc]] (w.alloc o) fun e w' => e = .returned (.int .i64 0) ∧ Ext (w.alloc o) w') := fun o => by
    have := refFault_any (E : Int) (G : Int) no oo nc oc nw od (w.alloc o) hl (hn.ext ((Ext.refl w).alloc o)) (ho.ext ((Ext.refl w).alloc o))
    rw [hf] at this; exact this
  have HB : Hid (∀ W, Ext (w.alloc (.cells #[.int .i64 (E : Int), .int .i64 (G : Int), .slice no nw.length nc, .slice oo od.length oc] 100)) W → Blk W w.heap.size #[.int .i64 (E : Int), .int .i64 (G : Int), .slice no nw.length nc, .slice oo od.length oc] 100) := fun W hx => Blk.ext hx (Blk.new _ _ _)
  clear hf hS hr
  go_enter Try.func71, Try.ntmps71
  go_upto_region 4 with (go_at_call 75; refine (HC.out _).mono ?_; rintro e w2 ⟨rfl, hx2⟩)
  have hB2 := HB.out w2 hx2
  have m0 : w2.cell? ⟨w.heap.size, 0, none⟩ = some (.int .i64 (E : Int)) := hB2.cell 0
  have m1 : w2.cell? ⟨w.heap.size, 1, none⟩ = some (.int .i64 (G : Int)) := hB2.cell 1
  have m2 : w2.cell? ⟨w.heap.size, 2, none⟩ = some (.slice no nw.length nc) := hB2.cell 2
  have m3 : w2.cell? ⟨w.heap.size, 3, none⟩ = some (.slice oo od.length oc) := hB2.cell 3
  have m4 := hB2.lt
  have m5 : ¬ w.heap.size = w2.heap.size := Nat.ne_of_lt m4
  have hcv : (convert 125 9 (.slice (some ⟨w2.heap.size, 0, none⟩) 6 6)).run Try.prog (w2.alloc (.cells #[.int .u8 ((E : Int) % 256), .int .u8 ((E : Int) / 256 % 256), .int .u8 ((E : Int) / 65536), .int .u8 (G : Int), .int .u8 (nw.length : Int), .int .u8 (od.length : Int)] 5)) = .ok (.string (txtM (hd6 (E : Int) (G : Int) nw od))) (w2.alloc (.cells #[.int .u8 ((E : Int) % 256), .int .u8 ((E : Int) / 256 % 256), .int .u8 ((E : Int) / 65536), .int .u8 (G : Int), .int .u8 (nw.length : Int), .int .u8 (od.length : Int)] 5)) := by
    have := conv_new w2 (hd6 (E : Int) (G : Int) nw od) 6
    rw [hd6_cells E G nw od (by omega) (by omega) (by omega) (by omega)] at this; exact this
  have hap : (⟨#[77]⟩ : ByteArray) ++ txtM (hd6 (E : Int) (G : Int) nw od) = txtM (hd7 (E : Int) (G : Int) nw od) := txtM_app [77] _
  have hs6 : (txtM (hd6 (E : Int) (G : Int) nw od)).size = 6 := rfl
  have HEN : Hid (encM (E : Int) (G : Int) nw od = hd7 (E : Int) (G : Int) nw od ++ (nw ++ od).map byt) := rfl
  have hs7 : (hd7 (E : Int) (G : Int) nw od).length = 7 := rfl
  have hx3 : Ext (w.alloc (.cells #[.int .i64 (E : Int), .int .i64 (G : Int), .slice no nw.length nc, .slice oo od.length oc] 100)) (w2.alloc (.cells #[.int .u8 ((E : Int) % 256), .int .u8 ((E : Int) / 256 % 256), .int .u8 ((E : Int) / 65536), .int .u8 (G : Int), .int .u8 (nw.length : Int), .int .u8 (od.length : Int)] 5)) := hx2.alloc _
  go_wp2_with fail
  clear hcv hap hs6 m0 m1 m2 m3 m4 m5 hB2 hx2
  generalize hd7 (E : Int) (G : Int) nw od = h7 at *
  generalize w2.alloc (.cells #[.int .u8 ((E : Int) % 256), .int .u8 ((E : Int) / 256 % 256), .int .u8 ((E : Int) / 65536), .int .u8 (G : Int), .int .u8 (nw.length : Int), .int .u8 (od.length : Int)] 5) = w3 at *
  have hx0 : Ext w (w.alloc (.cells #[.int .i64 (E : Int), .int .i64 (G : Int), .slice no nw.length nc, .slice oo od.length oc] 100)) := (Ext.refl w).alloc _
  obtain ⟨wb, hwb⟩ : ∃ wb, wb = w.alloc (.cells #[.int .i64 (E : Int), .int .i64 (G : Int), .slice no nw.length nc, .slice oo od.length oc] 100) := ⟨_, rfl⟩
  rw [← hwb] at HB hx3 hx0
  clear hwb HC hG hE
  go_loopw [5, 6] (fun t i wr => ∃ k : Nat, k ≤ nw.length ∧ i = .int .i64 k ∧ t = .string (txtM (h7 ++ (nw.take k).map byt)) ∧ Ext wb wr) (fun _ i _ => nw.length - (intOf i).toNat)
  case atStart => exact ⟨0, Nat.zero_le _, rfl, by simp, hx3⟩
  case round =>
    obtain ⟨k, hk, rfl, rfl, hxr⟩ := hrel
    by_cases hlt : k < nw.length
    · have hlt' : (k : Int) < (nw.length : Int) := by omega
      obtain ⟨b, off, x, rfl, he, h1⟩ := hn.get hlt
      have hxw := hx0.trans hxr
      have h1' := hxw.cell h1
      obtain ⟨n, rfl⟩ : ∃ n : Nat, x = (n : Int) := ⟨x.toNat, by have := HRN.out x (List.mem_of_getElem? he); omega⟩
      have hn24 : n < 24 := by have := HRN.out _ (List.mem_of_getElem? he); omega
      have HBY : ((byt (n : Int)).toNat : Int) = (n : Int) := byt_nat n (by omega)
      have hcv : (convert 125 9 (.slice (some ⟨wr.heap.size, 0, none⟩) 1 1)).run Try.prog (wr.alloc (.cells #[.int .u8 (n : Int)] 5)) = .ok (.string (txtM [byt (n : Int)])) (wr.alloc (.cells #[.int .u8 (n : Int)] 5)) := by
        have := conv_new wr [byt (n : Int)] 1
        simp only [Lib.byteCells, List.map_cons, List.map_nil, HBY] at this; exact this
      have hs1 : (txtM [byt (n : Int)]).size = 1 := rfl
      generalize hq : txtM [byt (n : Int)] = q at *
      have hsz := txtM_size (h7 ++ (nw.take k).map byt)
      simp only [List.length_append, List.length_map, List.length_take] at hsz
      have HS : Hid (txtM (h7 ++ (nw.take k).map byt) ++ q = txtM (h7 ++ (nw.take (k + 1)).map byt)) := by
        rw [Hid, ← hq, txtM_app, List.take_add_one, he]; simp
      generalize txtM (h7 ++ (nw.take k).map byt) = T at *
      have hT : T.size ≤ 1000 := by omega
      have hm := HB.out wr hxr
      have c2 : wr.cell? ⟨w.heap.size, 2, none⟩ = some (.slice (some ⟨b, off, none⟩) nw.length nc) := hm.cell 2
      have hlt0 := hm.lt
      clear he h1 hm hq hsz
      go_wp2_with fail
      go_roundw
      case rel => exact ⟨k + 1, by omega, by go_num, by rw [← HS.out], hxr.alloc _⟩
      case measure => simp [intOf]; omega
    · have hlt' : ¬ (k : Int) < (nw.length : Int) := by omega
      have hk2 : nw.take k = nw := List.take_of_length_le (by omega)
      rw [hk2]
      have hm := HB.out wr hxr
      have c2 : wr.cell? ⟨w.heap.size, 2, none⟩ = some (.slice no nw.length nc) := hm.cell 2
      have hlt0 := hm.lt
      clear hk2 hm
      go_wp2_with fail
      have hxo := hxr
      clear hxr c2 hlt0 hx3
      go_loopw [5, 7] (fun t i wr => ∃ k : Nat, k ≤ od.length ∧ i = .int .i64 k ∧ t = .string (txtM ((h7 ++ nw.map byt) ++ (od.take k).map byt)) ∧ Ext wb wr) (fun _ i _ => od.length - (intOf i).toNat)
      case atStart => exact ⟨0, Nat.zero_le _, rfl, by simp, hxo⟩
      case round =>
        obtain ⟨k, hk, rfl, rfl, hxr⟩ := hrel
        by_cases hlt : k < od.length
        · have hlt' : (k : Int) < (od.length : Int) := by omega
          have hpl : (h7 ++ nw.map byt).length ≤ 200 := by simp; omega
          generalize hP : h7 ++ nw.map byt = PR at *
          obtain ⟨b, off, x, rfl, he, h1⟩ := ho.get hlt
          have hxw := hx0.trans hxr
          have h1' := hxw.cell h1
          obtain ⟨n, rfl⟩ : ∃ n : Nat, x = (n : Int) := ⟨x.toNat, by have := HRO.out x (List.mem_of_getElem? he); omega⟩
          have hn24 : n < 24 := by have := HRO.out _ (List.mem_of_getElem? he); omega
          have HBY : ((byt (n : Int)).toNat : Int) = (n : Int) := byt_nat n (by omega)
          have hcv : (convert 125 9 (.slice (some ⟨wr.heap.size, 0, none⟩) 1 1)).run Try.prog (wr.alloc (.cells #[.int .u8 (n : Int)] 5)) = .ok (.string (txtM [byt (n : Int)])) (wr.alloc (.cells #[.int .u8 (n : Int)] 5)) := by
            have := conv_new wr [byt (n : Int)] 1
            simp only [Lib.byteCells, List.map_cons, List.map_nil, HBY] at this; exact this
          have hs1 : (txtM [byt (n : Int)]).size = 1 := rfl
          generalize hq : txtM [byt (n : Int)] = q at *
          have hsz := txtM_size (PR ++ (od.take k).map byt)
          simp only [List.length_append, List.length_map, List.length_take] at hsz
          have HS : Hid (txtM (PR ++ (od.take k).map byt) ++ q = txtM (PR ++ (od.take (k + 1)).map byt)) := by
            rw [Hid, ← hq, txtM_app, List.take_add_one, he]; simp
          generalize txtM (PR ++ (od.take k).map byt) = T at *
          have hT : T.size ≤ 1000 := by omega
          have hm := HB.out wr hxr
          have c2 : wr.cell? ⟨w.heap.size, 3, none⟩ = some (.slice (some ⟨b, off, none⟩) od.length oc) := hm.cell 3
          have hlt0 := hm.lt
          clear he h1 hm hq hsz
          go_wp2_with fail
          go_roundw
          case rel => exact ⟨k + 1, by omega, by go_num, by rw [← HS.out], hxr.alloc _⟩
          case measure => simp [intOf]; omega
        · have hlt' : ¬ (k : Int) < (od.length : Int) := by omega
          have HT : Hid (txtM (encM (E : Int) (G : Int) nw od) = txtM (h7 ++ nw.map byt ++ (od.take k).map byt)) := by
            rw [Hid, HEN.out, List.take_of_length_le (by omega : od.length ≤ k)]; simp
          generalize txtM (h7 ++ nw.map byt ++ (od.take k).map byt) = T at *
          have hm := HB.out wr hxr
          have c2 : wr.cell? ⟨w.heap.size, 3, none⟩ = some (.slice oo od.length oc) := hm.cell 3
          have hlt0 := hm.lt
          clear hm
          go_wp2_with fail
          go_ret2
          exact ⟨by rw [HT.out]; rfl, hx0.trans hxr⟩
end Go.Proofs.Ytpldeejagomfjaa
