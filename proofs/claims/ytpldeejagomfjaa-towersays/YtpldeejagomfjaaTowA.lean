
/- Towers: before. -/
import Derived.Test.YtpldeejagomfjaaTowM
import Derived.Deep.RegionHeld3
import Derived.Deep.LoopGhost
namespace Go.Proofs.Ytpldeejagomfjaa
open Go.RowKit

theorem Try.results96 : Try.f96.results = #[.cell 4 148] := by kernel_rfl
/-- The path behind the floors from k on. -/
def pc (lb : Nat) (ns : List Nd) (key : ByteArray) (k i : Nat) : Value := if k ≤ i then ptr (some (pr lb ns key i)) else ptr none
def pathC (lb : Nat) (ns : List Nd) (key : ByteArray) (k : Nat) : Array Value := #[pc lb ns key k 0, pc lb ns key k 1, pc lb ns key k 2, pc lb ns key k 3]
def prk (lb : Nat) (ns : List Nd) (key : ByteArray) (k : Nat) : Nat := if k = 4 then lb else pr lb ns key k
/-- Where a walk on a floor stands. -/
structure AtG (lb : Nat) (ns : List Nd) (key : ByteArray) (f a : Nat) (rest : List Nat) : Prop where
  ex : ∃ p, flo f (low key ns) = p ++ rest ∧ a = lst lb p
theorem atG_start (lb : Nat) (ns : List Nd) (key : ByteArray) (f : Nat) : ∃ rest, AtG lb ns key f (prk lb ns key (f + 1)) rest := by
  unfold prk
  split
  · exact ⟨_, ⟨[], rfl, rfl⟩⟩
  · obtain ⟨p, rest, h1, h2⟩ := flo_split f (low key ns) lb
    exact ⟨rest, ⟨p, h1, h2⟩⟩
theorem AtG.step {lb : Nat} {ns : List Nd} {key : ByteArray} {f a c : Nat} {rest : List Nat} (h : AtG lb ns key f a (c :: rest)) : AtG lb ns key f c rest := by
  obtain ⟨p, h1, _⟩ := h.ex
  exact ⟨p ++ [c], by rw [h1]; simp, by rw [lst_app]⟩
theorem AtG.done {lb : Nat} {ns : List Nd} {key : ByteArray} {f a : Nat} (h : AtG lb ns key f a []) : a = pr lb ns key f := by
  obtain ⟨p, h1, h2⟩ := h.ex
  rw [List.append_nil] at h1
  rw [h2, pr, h1]
theorem AtG.mem {lb : Nat} {ns : List Nd} {key : ByteArray} {f a : Nat} {rest : List Nat} (h : AtG lb ns key f a rest) : a ∈ lb :: ns.map Nd.b := by
  obtain ⟨p, h1, rfl⟩ := h.ex
  rcases List.mem_cons.1 (lst_mem lb p) with h | h
  · rw [h]; simp
  · refine List.mem_cons_of_mem _ ?_
    obtain ⟨n, hn, hb, _⟩ := flo_mem (ns := low key ns) (f := f) (c := lst lb p) (by rw [h1]; simp [h])
    exact List.mem_map.2 ⟨n, by rw [← low_hig key ns]; exact List.mem_append_left _ hn, hb⟩
theorem AtG.link {lb : Nat} {ns : List Nd} {key : ByteArray} {f a : Nat} {rest : List Nat} {L : Nat → Nat → Option Nat} (h : AtG lb ns key f a rest) (hC : Chn L lb ns) (hf : f < 4) : L a f = (rest ++ flo f (hig key ns)).head? := by
  obtain ⟨p, h1, rfl⟩ := h.ex
  have h2 := hC f hf
  rw [← low_hig key ns, flo_app, h1, List.append_assoc] at h2
  exact h2.to.head
theorem AtG.next {lb : Nat} {ns : List Nd} {key : ByteArray} {f a c : Nat} {rest : List Nat} (h : AtG lb ns key f a (c :: rest)) : ∃ n ∈ ns, n.b = c ∧ Lt n.e.key key := by
  obtain ⟨p, h1, _⟩ := h.ex
  obtain ⟨n, hn, hb, _⟩ := flo_mem (ns := low key ns) (f := f) (c := c) (by rw [h1]; simp)
  exact ⟨n, by rw [← low_hig key ns]; exact List.mem_append_left _ hn, hb, low_lt hn⟩
theorem hig_next {lb : Nat} {ns : List Nd} (g : TwG lb ns) {key : ByteArray} {f c : Nat} {r : List Nat} (h : flo f (hig key ns) = c :: r) : ∃ n ∈ ns, n.b = c ∧ ¬ Lt n.e.key key := by
  obtain ⟨n, hn, hb, _⟩ := flo_mem (ns := hig key ns) (f := f) (c := c) (by rw [h]; simp)
  exact ⟨n, by rw [← low_hig key ns]; exact List.mem_append_right _ hn, hb, hig_ge g hn⟩

theorem pathC_set (lb : Nat) (ns : List Nd) (key : ByteArray) (k : Nat) (hk : k < 4) : (pathC lb ns key (k + 1)).setIfInBounds k (ptr (some (pr lb ns key k))) = pathC lb ns key k := by
  rcases (show k = 0 ∨ k = 1 ∨ k = 2 ∨ k = 3 by omega) with rfl | rfl | rfl | rfl <;> simp [pathC, pc]
theorem pathC_get (lb : Nat) (ns : List Nd) (key : ByteArray) (j k : Nat) (hk : k < 4) : ∃ v, (pathC lb ns key j)[k]? = some v := by
  rcases (show k = 0 ∨ k = 1 ∨ k = 2 ∨ k = 3 by omega) with rfl | rfl | rfl | rfl <;> exact ⟨_, rfl⟩

set_option maxRecDepth 20000 in
set_option maxHeartbeats 2000000 in
theorem before_any (lb : Nat) (ns : List Nd) (L : Nat → Nat → Option Nat) (many : Int) (key : ByteArray) (w : World) (g : TwG lb ns) (hC : Chn L lb ns) (hM : Mem w lb ns L many) :
    Calls Try.prog 96 #[.pointer (some ⟨lb, 0, none⟩), .string key] w fun e w' => e = .returned (.agg (pathC lb ns key 0)) ∧ Ext w w' := by
  go_enter Try.func96, Try.ntmps96
  have hlb := hM.head.lt
  go_wp2
  have HX : Hid (Ext w ((w.alloc (.cells #[.pointer none, .pointer none, .pointer none, .pointer none] 148)).alloc (.cells #[.pointer none, .pointer none, .pointer none, .pointer none] 148))) := ((Ext.refl _).alloc _).alloc _
  have HB : Hid (Blk ((w.alloc (.cells #[.pointer none, .pointer none, .pointer none, .pointer none] 148)).alloc (.cells #[.pointer none, .pointer none, .pointer none, .pointer none] 148)) (w.heap.size + 1) (pathC lb ns key 4) 148) := Blk.new' _ _ _ (by simp)
  have HR : Hid (Blk ((w.alloc (.cells #[.pointer none, .pointer none, .pointer none, .pointer none] 148)).alloc (.cells #[.pointer none, .pointer none, .pointer none, .pointer none] 148)) w.heap.size #[.pointer none, .pointer none, .pointer none, .pointer none] 148) := (Blk.new _ _ _).alloc _
  go_loopw [6, 7] (fun a f wr => ∃ k : Nat, k ≤ 4 ∧ f = .int .i64 ((k : Int) - 1) ∧ a = ptr (some (prk lb ns key k)) ∧ Blk wr (w.heap.size + 1) (pathC lb ns key k) 148 ∧ Blk wr w.heap.size #[.pointer none, .pointer none, .pointer none, .pointer none] 148 ∧ Ext w wr) (fun _ f _ => (intOf f + 1).toNat)
  case atStart => exact ⟨4, Nat.le_refl _, rfl, rfl, HB.out, HR.out, HX.out⟩
  case round =>
    clear HB HR HX
    obtain ⟨k, hk, rfl, rfl, hB, hR, hx⟩ := hrel
    have hMr := hM.ext hx
    cases k with
    | zero =>
      have c0 := hB.cell 0
      have c1 := hB.cell 1
      have c2 := hB.cell 2
      have c3 := hB.cell 3
      have r0 := hR.cell 0
      have r1 := hR.cell 1
      have r2 := hR.cell 2
      have r3 := hR.cell 3
      have f0 := hR.free 0
      have f1 := hR.free 1
      have f2 := hR.free 2
      have f3 := hR.free 3
      simp [pathC, pc, ptr] at c0 c1 c2 c3 r0 r1 r2 r3
      have hl1 := hB.lt
      have hl2 := hR.lt
      clear hM hMr hC g
      go_wp2
      refine bodyPost_ret (v := .agg (pathC lb ns key 0)) (by simp [results, go_sem, pathC, pc, ptr, r0, r1, r2, r3]) rfl ⟨rfl, ?_⟩
      refine Ext.set (Ext.set (Ext.set (Ext.set hx ?_ _) ?_ _) ?_ _) ?_ _ <;> exact Nat.le_refl _
    | succ k =>
      obtain ⟨rest, hA⟩ := atG_start lb ns key k
      have hk1 : ((k + 1 : Nat) : Int) - 1 = (k : Int) := by omega
      rw [hk1]
      generalize prk lb ns key (k + 1) = a0 at *
      have hk4 : k < 4 := by omega
      go_wp2
      obtain ⟨wo, hwo⟩ : ∃ wo : World, wo = wr := ⟨_, rfl⟩
      rw [← hwo] at hB hR hx hMr ⊢
      clear hwo
      go_loopg [6] rest.length (fun gm a wi => ∃ (c : Nat) (rest : List Nat), gm = rest.length ∧ a = ptr (some c) ∧ AtG lb ns key k c rest ∧ wi = wo)
      case atStart => exact ⟨a0, rest, rfl, rfl, hA, rfl⟩
      case round =>
        clear hA
        obtain ⟨c, rest, rfl, rfl, hA, rfl⟩ := hrel
        have hl := hA.link hC hk4
        obtain ⟨m1, m2, m3⟩ := hMr.link hA.mem hk4
        rw [hl] at m1
        have hk0 : (0 : Int) ≤ (k : Int) := by omega
        have hk5 : (k : Int) < 4 := by omega
        have HA : Hid (AtG lb ns key k c rest) := hA
        have HC : Hid (Chn L lb ns) := hC
        have HG : Hid (TwG lb ns) := g
        have HM : Hid (Mem w lb ns L many ∧ Mem wr lb ns L many) := ⟨hM, hMr⟩
        clear hA hC g hM hl
        cases rest with
        | cons c2 r =>
          obtain ⟨n, hn, hnb, hlt⟩ := HA.out.next
          have hnk := (hMr.node n hn).cell 0
          rw [hnb] at hnk
          simp at hnk
          simp [ptr] at m1
          have hle : Op.bytesLess n.e.key.toList key.toList = true := hlt
          clear hMr hlt
          simp only [ptr, Option.map_some]
          go_wp2
          go_roundg r.length
          case measure => simp
          case rel => exact ⟨c2, r, rfl, rfl, HA.out.step, rfl⟩
        | nil =>
          have hdone := HA.out.done
          obtain ⟨old, hold⟩ := pathC_get lb ns key (k + 1) k hk4
          have p1 : wr.cell? ⟨w.heap.size + 1, k, none⟩ = some old := by rw [hB.cell]; exact hold
          have p2 := hB.free k
          have p3 := hB.lt
          have hpr : Hid (prk lb ns key k = c) := by unfold Hid prk; rw [if_neg (by omega), hdone]
          have hB2 : Hid (Blk (wr.setCell ⟨w.heap.size + 1, k, none⟩ (.pointer (some ⟨c, 0, none⟩))) (w.heap.size + 1) (pathC lb ns key k) 148) := by
            have := hB.set k (ptr (some (pr lb ns key k)))
            rw [pathC_set lb ns key k hk4, ← hdone] at this
            exact this
          have hR2 : Hid (Blk (wr.setCell ⟨w.heap.size + 1, k, none⟩ (.pointer (some ⟨c, 0, none⟩))) w.heap.size #[.pointer none, .pointer none, .pointer none, .pointer none] 148) := hR.other (by simp) _
          have hx2 : Hid (Ext w (wr.setCell ⟨w.heap.size + 1, k, none⟩ (.pointer (some ⟨c, 0, none⟩)))) := hx.set (by simp) _
          have hfl : ∃ q, flo k (hig key ns) = q := ⟨_, rfl⟩
          obtain ⟨q, hq⟩ := hfl
          rw [hq, List.nil_append] at m1
          clear hdone hold hB hR hx
          cases q with
          | nil =>
            simp [ptr] at m1
            clear hMr hq
            simp only [ptr, Option.map_some]
            go_wp2
            go_roundw
            case rel => exact ⟨k, by omega, rfl, by rw [hpr.out]; rfl, hB2.out, hR2.out, hx2.out⟩
            case measure => simp [intOf]
          | cons c2 r =>
            obtain ⟨n, hn, hnb, hlt⟩ := hig_next HG.out hq
            have hnk := (hMr.node n hn).cell 0
            rw [hnb] at hnk
            simp at hnk
            simp [ptr] at m1
            have hle : Op.bytesLess n.e.key.toList key.toList = false := Lt.nless hlt
            clear hMr hlt hq
            simp only [ptr, Option.map_some]
            go_wp2
            go_roundw
            case rel => exact ⟨k, by omega, rfl, by rw [hpr.out]; rfl, hB2.out, hR2.out, hx2.out⟩
            case measure => simp [intOf]
end Go.Proofs.Ytpldeejagomfjaa
