/- ManB TabE TabF. -/
import Derived.Test.YtjeinblcpejpnabGreatDoorManAJ
import Derived.Lib.Strings
import Derived.Lib.AppendStr
import Derived.Deep.AppendLies
import Derived.Laws.BitsLemmas
import Derived.Test.YtjeinblcpejpnabGreatDoorTabDJ
import Derived.Test.YtjeinblcpejpnabGreatDoorFilAJ
import Derived.Deep.OwnRows

/- Manifests: Bytes. -/
namespace Go.Proofs.YtjeinblcpejpnabGreatDoor
open Go.RowKit Go.WideShapes

def txtM (l : List UInt8) : ByteArray := ⟨l.toArray⟩
def byt (x : Int) : UInt8 := UInt8.ofNat x.toNat
/-- The bytes of a manifest. -/
def encM (ep lg : Int) (nw od : List Int) : List UInt8 := [77, byt (ep % 256), byt (ep / 256 % 256), byt (ep / 65536), byt lg, UInt8.ofNat nw.length, UInt8.ofNat od.length] ++ (nw ++ od).map byt
theorem scan_zero {l seen : List Int} (h : scan seen l = 0) : (∀ x ∈ l, 2 ≤ x ∧ x < 24) ∧ l.Nodup ∧ ∀ x ∈ l, x ∉ seen := by
  induction l generalizing seen with
  | nil => simp
  | cons b r ih =>
    unfold scan at h
    by_cases h1 : b < 2 ∨ 24 ≤ b
    · rw [if_pos h1] at h; omega
    · rw [if_neg h1] at h
      by_cases h2 : b ∈ seen
      · rw [if_pos h2] at h; omega
      · rw [if_neg h2] at h
        obtain ⟨a1, a2, a3⟩ := ih h
        refine ⟨?_, ?_, ?_⟩
        · intro x hx
          rcases List.mem_cons.1 hx with rfl | hx
          · omega
          · exact a1 x hx
        · refine List.nodup_cons.2 ⟨fun hb => a3 b hb (by simp), a2⟩
        · intro x hx
          rcases List.mem_cons.1 hx with rfl | hx
          · exact h2
          · exact fun hs => a3 x hx (by simp [hs])
theorem few_nat : ∀ (n : Nat) (l : List Nat), l.Nodup → (∀ x ∈ l, x < n) → l.length ≤ n
  | 0, l, _, h => by
    cases l with
    | nil => simp
    | cons x r => have := h x (by simp); omega
  | n + 1, l, hn, h => by
    by_cases hm : n ∈ l
    · have h1 := few_nat n (l.erase n) (hn.erase n) (fun x hx => by
        have h2 := h x (List.mem_of_mem_erase hx)
        have h3 : x ≠ n := fun e => by
          subst e
          exact (List.Nodup.mem_erase_iff hn).1 hx |>.1 rfl
        omega)
      rw [List.length_erase_of_mem hm] at h1
      omega
    · have h1 := few_nat n l hn (fun x hx => by
        have h2 := h x hx
        have h3 : x ≠ n := fun e => hm (e ▸ hx)
        omega)
      omega
theorem nodup_le {l : List Int} (hr : ∀ x ∈ l, 2 ≤ x ∧ x < 24) (hn : l.Nodup) : l.length ≤ 24 := by
  have h1 : (l.map Int.toNat).Nodup := by
    unfold List.Nodup
    rw [List.pairwise_map]
    refine List.Pairwise.imp_of_mem ?_ hn
    intro a b ha hb hne e
    have := hr a ha; have := hr b hb; omega
  have := few_nat 24 (l.map Int.toNat) h1 (fun x hx => by
    obtain ⟨y, hy, rfl⟩ := List.mem_map.1 hx
    have := hr y hy; omega)
  simpa using this

/-- Bytes that were made behind the world W0. -/
structure BL (W0 w : World) (v : Value) (l : List UInt8) : Prop where
  own : w.ownsRow W0.heap.size 5 1 v l.length (Lib.byteCells l)
  ext : Ext W0 w
theorem Tryz.infoB : (Tryz.prog.info? 5).map (fun i => (i.zero, i.size, i.bytes)) = some (some (.int .u8 0), 1, 1) := by kernel_rfl
theorem BL.alloc {W0 w : World} {v : Value} {xs : List UInt8} (h : BL W0 w v xs) (o : Obj) : BL W0 (w.alloc o) v xs := ⟨h.own.alloc o, h.ext.alloc o⟩
theorem BL.more {W0 w w' : World} {v : Value} {xs : List UInt8} (h : BL W0 w v xs) (hx : Ext w w') : BL W0 w' v xs := by
  refine ⟨?_, h.ext.trans hx⟩
  obtain ⟨h1, h2⟩ := h.own
  refine ⟨h1, ?_⟩
  rcases h2 with h2 | ⟨g, cap, cur, a, b, c, d⟩
  · exact .inl h2
  · refine .inr ⟨g, cap, cur, a, b, ?_, d⟩
    rw [hx.below.block g (lt_of_block c)]; exact c
theorem bl_new {W0 w : World} (hx : Ext W0 w) (l : List UInt8) (hl : l.length ≤ 1000) : BL W0 (w.alloc (.cells (Lib.byteCells l).toArray 5)) (.slice (some ⟨w.heap.size, 0, none⟩) l.length l.length) l := by
  refine ⟨⟨by simp [Lib.byteCells], .inr ⟨w.heap.size, l.length, _, rfl, hx.size, heap_alloc_new w _, Nat.le_refl _, by unfold maxLen; omega, by simp [Lib.byteCells], ?_⟩⟩, hx.alloc _⟩
  rw [List.take_of_length_le (by simp [Lib.byteCells])]
theorem wpList_app_byte {w : World} {ops : Array Oper} {rest : List Oper} {o : Oper} {a : Act} {Q : Exit → Act → World → Prop} (hgd : o.guard = none) (s x : Operand)
    (ho : o.op = .call { callee := .builtin .append, args := #[s, x], argTypes := #[132, 132] })
    (W0 : World) (v : Value) (l : List UInt8) (hs : a.eval s = v) (hl : BL W0 w v l) (g : Nat) (y : UInt8) (hx : a.eval x = .slice (some ⟨g, 0, none⟩) 1 1)
    (hb : Blk w g #[.int .u8 (y.toNat : Int)] 5) (hn : l.length ≤ 100000)
    (h : ∀ g' cap' w', BL W0 w' (.slice (some ⟨g', 0, none⟩) (l.length + 1) cap') (l ++ [y]) → w.grownBy w' v.ownBlock → (v.ownBlock = some g' ∨ g' = w.heap.size) → g' < w'.heap.size → wpList Tryz.prog ops Q rest (a.put o.dst (.slice (some ⟨g', 0, none⟩) (l.length + 1) cap')) w') : wpList Tryz.prog ops Q (o :: rest) a w := by
  obtain ⟨i0, hi, hz0, hz1, hz2⟩ := info_parts Tryz.infoB
  refine wpList_plain hgd fun _ hK => ?_
  refine wp_append_lies w s x 132 ho W0.heap.size 5 i0 (.int .u8 0) 1 1 Tryz.underlying132 hi hz0 hz1 hz2 rfl (by decide) v l.length (Lib.byteCells l) hs hl.own ⟨g, 0, none⟩ 1 1 [.int .u8 (y.toNat : Int)] hx rfl ?_ ?_ (by decide) ?_ ?_ hl.ext.size w.heap.size rfl ?_
  · exact news_cells hb
  · intro u hu; simp only [List.mem_cons, List.not_mem_nil, or_false] at hu; subst hu; rfl
  · unfold maxLen; omega
  · omega
  · intro g' cap' w' p q r t
    refine hK _ _ (h g' cap' w' ⟨?_, hl.ext.grown q (own_ge hl.own)⟩ q r t)
    have e : Lib.byteCells (l ++ [y]) = Lib.byteCells l ++ [.int .u8 (y.toNat : Int)] := by simp [Lib.byteCells]
    rw [e, List.length_append]; exact p
theorem BL.conv {W0 w : World} {v : Value} {l : List UInt8} (h : BL W0 w v l) (hne : l ≠ []) : (∃ g cap, v = .slice (some ⟨g, 0, none⟩) l.length cap) ∧ ∀ g cap, v = .slice (some ⟨g, 0, none⟩) l.length cap → (convert 132 9 (.slice (some ⟨g, 0, none⟩) l.length cap)).run Tryz.prog w = .ok (.string (txtM l)) w := by
  obtain ⟨hlen, hcase⟩ := h.own
  rcases hcase with ⟨rfl, h0⟩ | ⟨g, cap, cur, rfl, _, hh, _, _, _, htake⟩
  · exact absurd (List.eq_nil_of_length_eq_zero h0) hne
  · refine ⟨⟨g, cap, rfl⟩, fun g' cap' e => ?_⟩
    simp at e
    obtain ⟨rfl, rfl⟩ := e
    exact run_convert_bytes_back (P := Tryz.prog) w 132 9 5 ⟨g, 0, none⟩ cap l Tryz.underlying132 Tryz.underlying5 Tryz.underlying9 (fun j hj => by
      rw [add_plain, Nat.zero_add]
      have hj2 : (Lib.byteCells l)[j]? = some (.int .u8 (l[j].toNat : Int)) := by simp [Lib.byteCells, hj]
      rw [← htake, List.getElem?_take] at hj2
      split at hj2
      · simp only [World.cell?, hh]; simpa using hj2
      · simp at hj2)
end Go.Proofs.YtjeinblcpejpnabGreatDoor

/- Tables: the first page. -/
namespace Go.Proofs.YtjeinblcpejpnabGreatDoor
open Go.RowKit Go.WideShapes
attribute [local go_sem ↓] Go.wp_at_zero Go.wp_at_succ

def keysE (es : List Ent) : List ByteArray := es.map Ent.key
/-- Byte i of a number. -/
def byteN (f i : Nat) : UInt8 := UInt8.ofNat (f / 256 ^ i % 256)
def headB (f : Nat) (k : Nat) : List UInt8 := 70 :: (List.range k).map (byteN f)
theorem headB_succ (f k : Nat) : headB f (k + 1) = headB f k ++ [byteN f k] := by simp [headB, List.range_succ]
theorem Tryz.infoS : (Tryz.prog.info? 9).map (fun i => (i.zero, i.size, i.bytes)) = some (some (.string ⟨#[]⟩), 1, 16) := by kernel_rfl
/-- The first k cells are keys. -/
def keyC (es : List Ent) (k : Nat) : Array Value := ((List.range es.length).map fun i => if i < k then Value.string (es.getD i ⟨⟨#[]⟩, ⟨#[]⟩, false⟩).key else .string ⟨#[]⟩).toArray
theorem keyC_size (es : List Ent) (k : Nat) : (keyC es k).size = es.length := by simp [keyC]
theorem keyC_set (es : List Ent) (k : Nat) (e : Ent) (h : es[k]? = some e) : (keyC es k).setIfInBounds k (.string e.key) = keyC es (k + 1) := by
  apply Array.ext'
  apply List.ext_getElem?
  intro i
  have hk : k < es.length := (List.getElem?_eq_some_iff.1 h).1
  simp only [keyC, Array.toList_setIfInBounds, List.getElem?_set, List.length_map, List.length_range, List.getElem?_map]
  by_cases hi : k = i
  · subst hi
    rw [if_pos rfl, if_pos hk, List.getElem?_range hk]
    simp [List.getD_eq_getElem?_getD, h]
  · rw [if_neg hi]
    by_cases hl : i < es.length
    · rw [List.getElem?_range hl]
      simp only [Option.map_some, Option.some.injEq]
      by_cases h1 : i < k
      · rw [if_pos h1, if_pos (by omega)]
      · rw [if_neg h1, if_neg (by omega)]
    · rw [List.getElem?_eq_none (by simpa using hl)]; rfl
theorem keyC_txts {w : World} {es : List Ent} {g : Nat} {t : TypeId} (h : Blk w g (keyC es es.length) t) : TxtsAt w (some ⟨g, 0, none⟩) (keysE es) := fun _ => by
  refine ⟨g, 0, rfl, fun i s hs => ?_⟩
  rw [Nat.zero_add, h.cell]
  unfold keysE at hs
  rw [List.getElem?_map, Option.map_eq_some_iff] at hs
  obtain ⟨e, he, rfl⟩ := hs
  have hi : i < es.length := (List.getElem?_eq_some_iff.1 he).1
  rw [List.getElem?_eq_getElem hi] at he
  simp at he
  subst he
  simp [keyC, hi]
theorem byteN_int (f k : Nat) : (f : Int) / 2 ^ (8 * k) % 256 = ((byteN f k).toNat : Int) := by
  have hp : (2 : Int) ^ (8 * k) = ((256 ^ k : Nat) : Int) := by rw [Int.pow_mul]; simp
  rw [hp]
  unfold byteN
  simp
theorem made_keys (es : List Ent) : madeCells #[.string ⟨#[]⟩] es.length = keyC es 0 := by
  apply Array.ext'
  simp only [madeCells, keyC]
  apply List.ext_getElem?
  intro i
  by_cases hi : i < es.length
  · simp [hi, Nat.mod_one]
  · simp [hi]

set_option maxRecDepth 20000 in
set_option maxHeartbeats 2000000 in
theorem head_any (ao : Option Addr) (cap : Nat) (es : List Ent) (w : World) (hl : es.length ≤ 14) (hks : ∀ e ∈ es, e.key.size ≤ 8) (hes : EntsAt w ao es) :
    Calls Tryz.prog 108 #[.slice ao es.length cap] w fun e w' => e = .returned (.string (txtM (headB (filterN (keysE es)) 8))) ∧ Ext w w' := by
  have hmk := run_make_row' (P := Tryz.prog) 178 9 (.string ⟨#[]⟩) 16 Tryz.underlying178 Tryz.infoS rfl .i64 .i64 es.length (by omega) (by omega)
  rw [made_keys] at hmk
  go_enter Tryz.func108, Tryz.ntmps108
  go_wp2_with fail
  have hB0 : Blk (w.alloc (.cells (keyC es 0) 9)) w.heap.size (keyC es 0) 9 := Blk.new _ _ _
  clear hmk
  go_loopw [14] (fun i wr => ∃ k : Nat, k ≤ es.length ∧ i = .int .i64 k ∧ Blk wr w.heap.size (keyC es k) 9 ∧ Ext w wr) (fun i _ => es.length - (intOf i).toNat)
  case atStart => exact ⟨0, Nat.zero_le _, rfl, hB0, (Ext.refl w).alloc _⟩
  case round =>
    clear hB0
    obtain ⟨k, hk, rfl, hB, hx⟩ := hrel
    by_cases hlt : k < es.length
    · obtain ⟨b, off, ek, ev, eg, rfl, he, h1, h2, h3⟩ := hes.get hlt
      have g1 := hx.cell h1
      have g2 := hx.cell h2
      have g3 := hx.cell h3
      have hBl := hB.lt
      have hbl : b < wr.heap.size := by
        rcases Nat.lt_or_ge b wr.heap.size with h' | h'
        · exact h'
        · simp [World.cell?, Array.getElem?_eq_none h'] at g1
      have HS : Hid ((keyC es k).setIfInBounds k (.string ek) = keyC es (k + 1)) := keyC_set es k _ he
      have c0 : wr.cell? ⟨w.heap.size, k, none⟩ = (keyC es k)[k]? := hB.cell k
      rw [Array.getElem?_eq_getElem (by rw [keyC_size]; exact hlt)] at c0
      have f0 := hB.free k
      generalize (keyC es k)[k]'(by rw [keyC_size]; exact hlt) = z0 at *
      have HB : Hid (Blk wr w.heap.size (keyC es k) 9) := hB
      clear hB h1 h2 h3 he
      go_wp2_with fail
      go_roundw
      case rel => exact ⟨k + 1, by omega, by go_num, by rw [← HS.out]; exact (HB.out.set k _).alloc _, (hx.set (Nat.le_refl _) _).alloc _⟩
      case measure => simp [intOf]; omega
    · have hkl : k = es.length := by omega
      subst hkl
      have HO : Hid (∀ W, Ext wr W → Calls Tryz.prog 118 #[.slice (some ⟨w.heap.size, 0, none⟩) es.length es.length] W fun e w' => e = .returned (.int .u64 (filterN (keysE es) : Int)) ∧ Ext W w') := fun W hW => by
        have := of_any (some ⟨w.heap.size, 0, none⟩) es.length (keysE es) W (by simp [keysE]; omega) (fun t ht => by
          unfold keysE at ht; rw [List.mem_map] at ht; obtain ⟨e, he, rfl⟩ := ht; have := hks e he; omega) (keyC_txts (Blk.ext hW hB))
        rw [show (keysE es).length = es.length by simp [keysE]] at this
        refine this.mono ?_
        rintro e w' ⟨rfl, q, rfl⟩
        exact ⟨rfl, (Ext.refl W).drewN q⟩
      have hf64 := filterN_lt (keysE es)
      obtain ⟨f, hfe⟩ : ∃ f, filterN (keysE es) = f := ⟨_, rfl⟩
      rw [hfe] at HO hf64
      have HFN : Hid (filterN (keysE es) = f) := hfe
      clear hfe
      go_wp2_with (go_at_call 118; refine (HO.out _ (Ext.refl _)).mono ?_; rintro e w2 ⟨rfl, hx2⟩)
      have hL0 : BL w (w2.alloc (.cells #[.int .u8 70] 5)) (.slice (some ⟨w2.heap.size, 0, none⟩) 1 1) (headB f 0) := bl_new (hx.trans hx2) [70] (by simp)
      clear HO hB hx2 hx hks
      generalize w2.alloc (.cells #[.int .u8 70] 5) = w3 at *
      generalize w2.heap.size = g0 at *
      go_loopw [7, 28] (fun v i wr => ∃ k g cp : Nat, k ≤ 8 ∧ i = .int .i64 k ∧ v = .slice (some ⟨g, 0, none⟩) (1 + k) cp ∧ BL w wr (.slice (some ⟨g, 0, none⟩) (1 + k) cp) (headB f k)) (fun _ i _ => 8 - (intOf i).toNat)
      case atStart => exact ⟨0, g0, 1, by omega, rfl, rfl, hL0⟩
      case round =>
        clear hL0
        obtain ⟨k, g, cp, hk, rfl, rfl, hL⟩ := hrel
        have hzl : (headB f k).length = 1 + k := by simp [headB]; omega
        by_cases hlt : k < 8
        · have HS : Hid (headB f (k + 1) = headB f k ++ [byteN f k]) := headB_succ f k
          generalize headB f k = z at *
          go_wp2_with (at_builtin; refine wpList_app_byte rfl _ _ rfl w (.slice (some ⟨g, 0, none⟩) (1 + k) cp) z rfl ?c1 wr.heap.size (byteN f k) rfl ?c2 ?c3 ?_)
          case c1 => exact hL.alloc _
          case c2 => rw [byteN_int f k]; exact Blk.new _ _ _
          case c3 => omega
          intro g2 cp2 w6 hL6 hgr hat hlt6
          clear hL hgr hat
          go_wp2
          go_roundw
          case rel => exact ⟨k + 1, g2, cp2, by omega, by go_num, rfl, by rw [HS.out]; exact hL6⟩
          case measure => simp [intOf]; omega
        · have hk8 : k = 8 := by omega
          subst hk8
          have hcv := (hL.conv (by intro e; rw [e] at hzl; simp at hzl)).2 g cp (by rw [hzl])
          rw [hzl] at hcv
          have HX : Hid (Ext w wr) := hL.ext
          clear hL hzl
          go_wp2
          go_ret
          exact ⟨by rw [HFN.out]; rfl, HX.out⟩
end Go.Proofs.YtjeinblcpejpnabGreatDoor

/- Tables: an entry of a page is found by halves. -/
namespace Go.Proofs.YtjeinblcpejpnabGreatDoor
open Go.RowKit Go.WideShapes
attribute [local go_sem ↓] Go.wp_at_zero Go.wp_at_succ

/-- Is the key of entry i at or above a key? -/
def geK (es : List Ent) (key : ByteArray) (i : Nat) : Bool := match es[i]? with
  | none => true
  | some e => !Op.bytesLess e.key.toList key.toList
/-- The list and the key, as the closure has them. -/
structure Clo (w : World) (lb kb : Nat) (es : List Ent) (key : ByteArray) : Prop where
  l : ∃ ao cap, Blk w lb #[.slice ao es.length cap] 37 ∧ EntsAt w ao es
  k : Blk w kb #[.string key] 9
theorem Clo.ext {w w' : World} {lb kb : Nat} {es : List Ent} {key : ByteArray} (h : Clo w lb kb es key) (hx : Ext w w') : Clo w' lb kb es key := by
  obtain ⟨ao, cap, h1, h2⟩ := h.l
  exact ⟨⟨ao, cap, Blk.ext hx h1, h2.ext hx⟩, Blk.ext hx h.k⟩
set_option maxRecDepth 20000 in
set_option maxHeartbeats 1000000 in
theorem get1_any (lb kb i : Nat) (es : List Ent) (key : ByteArray) (w : World) (h : Clo w lb kb es key) (hi : i < es.length) :
    Calls Tryz.prog 112 #[.int .i64 (i : Int), .pointer (some ⟨lb, 0, none⟩), .pointer (some ⟨kb, 0, none⟩)] w fun e w' => e = .returned (.bool (geK es key i)) ∧ Ext w w' := by
  obtain ⟨ao, cap, h1, h2⟩ := h.l
  obtain ⟨b, off, ek, ev, eg, rfl, he, g1, g2, g3⟩ := h2.get hi
  have c1 : w.cell? ⟨lb, 0, none⟩ = some (.slice (some ⟨b, off, none⟩) es.length cap) := h1.cell 0
  have c2 : w.cell? ⟨kb, 0, none⟩ = some (.string key) := h.k.cell 0
  have hlb := h1.lt
  have hkb := h.k.lt
  have HK : Hid (geK es key i = (!Op.bytesLess ek.toList key.toList)) := by unfold geK Hid; rw [he]
  clear he h1 h2 h g2 g3
  go_enter Tryz.func112, Tryz.ntmps112
  go_wp2_with fail
  go_quiet (fail)
  go_wp2_with fail
  go_ret
  exact ⟨by rw [HK.out]; rfl, (Ext.refl w).drewN _⟩
/-- Where p begins to be true. -/
structure From (p : Nat → Bool) (n r : Nat) : Prop where
  le : r ≤ n
  lo : ∀ i, i < r → p i = false
  hi : ∀ i, r ≤ i → i < n → p i = true
set_option maxRecDepth 20000 in
set_option maxHeartbeats 1000000 in
theorem search_any (lb kb : Nat) (es : List Ent) (key : ByteArray) (w : World) (h : Clo w lb kb es key) (hl : es.length ≤ 1000) (hm : ∀ i j, i ≤ j → j < es.length → geK es key i = true → geK es key j = true) :
    Calls Tryz.prog 111 #[.int .i64 (es.length : Int), .func (.func 112) #[] #[.pointer (some ⟨lb, 0, none⟩), .pointer (some ⟨kb, 0, none⟩)]] w fun e w' => (∃ r : Nat, e = .returned (.int .i64 (r : Int)) ∧ From (geK es key) es.length r) ∧ Ext w w' := by
  go_enter Tryz.func111, Tryz.ntmps111
  go_wp2_with fail
  go_loopw [5, 6] (fun a c wr => ∃ i j : Nat, a = .int .i64 i ∧ c = .int .i64 j ∧ i ≤ j ∧ j ≤ es.length ∧ (∀ t, t < i → geK es key t = false) ∧ (∀ t, j ≤ t → t < es.length → geK es key t = true) ∧ Ext w wr) (fun a c _ => (intOf c).toNat - (intOf a).toNat)
  case atStart => exact ⟨0, es.length, rfl, rfl, Nat.zero_le _, Nat.le_refl _, fun t ht => by omega, fun t h1 h2 => by omega, Ext.refl _⟩
  case round =>
    obtain ⟨i, j, rfl, rfl, hij, hj, hlo, hhi, hx⟩ := hrel
    by_cases hlt : i < j
    · obtain ⟨q, hq⟩ : ∃ q : Nat, q = (i + j) / 2 := ⟨_, rfl⟩
      have hq1 : i ≤ q := by omega
      have hq2 : q < j := by omega
      have hqI : ((i : Int) + (j : Int)) / 2 = (q : Int) := by omega
      have HC : Hid (Calls Tryz.prog 112 #[.int .i64 (q : Int), .pointer (some ⟨lb, 0, none⟩), .pointer (some ⟨kb, 0, none⟩)] wr fun e w' => e = .returned (.bool (geK es key q)) ∧ Ext wr w') := get1_any lb kb q es key wr (h.ext hx) (by omega)
      have HLO : Hid (∀ t, t < i → geK es key t = false) := hlo
      have HHI : Hid (∀ t, j ≤ t → t < es.length → geK es key t = true) := hhi
      have HM : Hid (∀ i j, i ≤ j → j < es.length → geK es key i = true → geK es key j = true) := hm
      clear hlo hhi hm hq
      cases hp : geK es key q with
      | true =>
        rw [hp] at HC
        go_wp2_with (go_at_call 112; refine HC.out.mono ?_; rintro e w2 ⟨rfl, hx2⟩)
        go_roundw
        case rel => exact ⟨i, q, rfl, rfl, hq1, by omega, HLO.out, fun t h1 h2 => HM.out q t h1 h2 hp, hx.trans hx2⟩
        case measure => simp [intOf]; omega
      | false =>
        rw [hp] at HC
        go_wp2_with (go_at_call 112; refine HC.out.mono ?_; rintro e w2 ⟨rfl, hx2⟩)
        go_roundw
        case rel =>
          have hlo2 : ∀ t, t < q + 1 → geK es key t = false := fun t ht => by
            cases ht' : geK es key t with
            | false => rfl
            | true =>
              have := HM.out t q (by omega) (by omega) ht'
              rw [hp] at this
              cases this
          exact ⟨q + 1, j, by go_num, rfl, by omega, hj, hlo2, HHI.out, hx.trans hx2⟩
        case measure => simp [intOf]; omega
    · have hij' : i = j := by omega
      subst hij'
      have HF : Hid (From (geK es key) es.length i) := ⟨hj, hlo, hhi⟩
      clear hlo hhi hm
      go_wp2_with fail
      go_ret
      exact ⟨⟨i, rfl, HF.out⟩, hx⟩
end Go.Proofs.YtjeinblcpejpnabGreatDoor
