
/- What Bytes answers. -/
import Derived.Test.YtpldeejagomfjaaEntP
import Derived.Lib.AppendStr
import Derived.Deep.AppendLies
namespace Go.Proofs.Ytpldeejagomfjaa
open Go.RowKit Go.WideShapes
attribute [local go_sem ↓] Go.wp_at_zero Go.wp_at_succ

/-- How many bytes entries take. -/
def lenT : List Ent → Nat
  | [] => 0
  | e :: r => 3 + e.key.size + e.val.size + lenT r
theorem lenT_snoc (es : List Ent) (e : Ent) : lenT (es ++ [e]) = lenT es + (3 + e.key.size + e.val.size) := by
  induction es with
  | nil => simp [lenT]
  | cons x r ih => simp only [List.cons_append, lenT, ih]; omega
theorem encE_len (e : Ent) : (encE e).length = 3 + e.key.size + e.val.size := by simp [encE]; omega
theorem lenT_enc (es : List Ent) : (es.flatMap encE).length = lenT es := by
  induction es with
  | nil => rfl
  | cons x r ih => simp only [List.flatMap_cons, List.length_append, lenT, ih, encE_len]
theorem faultsE_snoc (es : List Ent) (e : Ent) (h : faultsE es = 0) : faultsE (es ++ [e]) = faultE e := by
  induction es with
  | nil => simp only [List.nil_append, faultsE]; split <;> simp_all
  | cons x r ih =>
    simp only [List.cons_append, faultsE] at *
    by_cases hx : faultE x = 0
    · rw [if_pos hx] at *; exact ih h
    · rw [if_neg hx] at h; exact absurd h hx
theorem faultsE_pre (es : List Ent) (r : List Ent) (h : ¬ faultsE es = 0) : faultsE (es ++ r) = faultsE es := by
  induction es with
  | nil => simp [faultsE] at h
  | cons x t ih =>
    simp only [List.cons_append, faultsE] at *
    by_cases hx : faultE x = 0
    · rw [if_pos hx] at h; rw [if_pos hx, if_pos hx]; exact ih h
    · rw [if_neg hx, if_neg hx]

/-- Behind k rounds of the first loop. -/
structure SGood (es : List Ent) (k size : Nat) : Prop where
  ok : faultsE (es.take k) = 0
  len : size = 1 + lenT (es.take k)
  small : size ≤ 1 + 27 * k
theorem take_snoc {es : List Ent} {k : Nat} {e : Ent} (he : es[k]? = some e) : es.take (k + 1) = es.take k ++ [e] := by
  rw [List.take_add_one, he]; rfl
theorem SGood.step {es : List Ent} {k size : Nat} {e : Ent} (h : SGood es k size) (he : es[k]? = some e) (hf : faultE e = 0) : SGood es (k + 1) (size + (3 + e.key.size + e.val.size)) := by
  have := fault_zero hf
  refine ⟨?_, ?_, ?_⟩
  · rw [take_snoc he, faultsE_snoc _ _ h.ok, hf]
  · rw [take_snoc he, lenT_snoc, h.len]; omega
  · have := h.small; omega
theorem SGood.stop {es : List Ent} {k size : Nat} {e : Ent} (h : SGood es k size) (he : es[k]? = some e) (hf : ¬ faultE e = 0) : faultsE es = faultE e := by
  have h1 : faultsE (es.take (k + 1)) = faultE e := by rw [take_snoc he, faultsE_snoc _ _ h.ok]
  have h2 := faultsE_pre (es.take (k + 1)) (es.drop (k + 1)) (by rw [h1]; exact hf)
  rw [List.take_append_drop] at h2
  rw [h2, h1]

/-- The bytes behind k rounds of the second loop. -/
def encTo (es : List Ent) (k : Nat) : List UInt8 := UInt8.ofNat es.length :: (es.take k).flatMap encE
theorem encTo_step {es : List Ent} {k : Nat} {e : Ent} (he : es[k]? = some e) : encTo es (k + 1) = encTo es k ++ encE e := by
  unfold encTo; rw [take_snoc he]; simp

theorem encTo_le (es : List Ent) (k : Nat) : (encTo es k).length ≤ (encT es).length := by
  have h : es.flatMap encE = (es.take k).flatMap encE ++ (es.drop k).flatMap encE := by rw [← List.flatMap_append, List.take_append_drop]
  unfold encTo encT; rw [h]; simp
theorem bc_app (a b : List UInt8) : Lib.byteCells (a ++ b) = Lib.byteCells a ++ Lib.byteCells b := by simp [Lib.byteCells]
theorem strC (s : ByteArray) : Lib.strCells s = Lib.byteCells s.data.toList := rfl
theorem wrap_u8 (n : Nat) (h : n < 256) : IntKind.u8.wrap (n : Int) = n := by
  simp [IntKind.wrap, IntKind.signed, IntKind.bits]; omega
theorem encE_cells (key val : ByteArray) (gone : Bool) (hk : key.size ≤ 8) (hv : val.size ≤ 16) : Lib.byteCells (encE ⟨key, val, gone⟩) = [.int .u8 (goneN gone), .int .u8 (IntKind.u8.wrap (key.size : Int)), .int .u8 (IntKind.u8.wrap (val.size : Int))] ++ Lib.byteCells key.data.toList ++ Lib.byteCells val.data.toList := by
  rw [wrap_u8 _ (by omega), wrap_u8 _ (by omega)]
  have h1 : key.size % 256 = key.size := by omega
  have h2 : val.size % 256 = val.size := by omega
  cases gone <;> simp [Lib.byteCells, encE, goneN, h1, h2]

/-- What is answered. -/
def bytesT (es : List Ent) : List UInt8 × Int :=
  if ¬ faultsE es = 0 then ([], faultsE es) else if 64 < (encT es).length then ([], 2) else (encT es, 0)

set_option maxRecDepth 20000 in
set_option maxHeartbeats 2000000 in
theorem bytes_any (ao : Option Addr) (cap : Nat) (es : List Ent) (w : World) (hl : es.length ≤ 200) (hes : EntsAt w ao es) :
    Calls Try.prog 22 #[.slice ao es.length cap] w fun e w' => e = .returned (.tuple #[.string (txt (bytesT es).1), errV (bytesT es).2]) ∧ Ext w w' := by
  obtain ⟨i0, hi, hz0, hz1, hz2⟩ := info_parts Try.info5
  go_enter Try.func22, Try.ntmps22
  go_wp2_with fail
  go_loopw [4, 13] (fun z i wr => ∃ (k size : Nat), k ≤ es.length ∧ i = .int .i64 k ∧ z = .int .i64 size ∧ SGood es k size ∧ Ext w wr) (fun _ i _ => es.length - (intOf i).toNat)
  case atStart => exact ⟨0, 1, Nat.zero_le _, rfl, rfl, ⟨by simp [faultsE], by simp [lenT], by omega⟩, Ext.refl _⟩
  case round =>
    obtain ⟨k, size, hk, rfl, rfl, hg, hx⟩ := hrel
    by_cases hlt : k < es.length
    · obtain ⟨b, off, key, val, gone, rfl, he, h1, h2, h3⟩ := hes.get hlt
      have g1 := hx.cell h1
      have g2 := hx.cell h2
      have g3 := hx.cell h3
      have hsm := hg.small
      have HE : Hid (es[k]? = some (⟨key, val, gone⟩ : Ent)) := he
      clear h1 h2 h3 hes he
      by_cases hf : faultB key val gone = 0
      · have hkv := fault_zero (e := ⟨key, val, gone⟩) hf
        obtain ⟨hk8, hv16⟩ := hkv
        have HF : Hid (faultB key val gone = 0) := hf
        have hg' := hg.step HE.out hf
        clear hf
        dsimp only at hk8 hv16
        go_wp2_with (go_at_call 20; refine (check_ok key val gone _ HF.out).mono ?_; rintro e w' ⟨rfl, cc, rfl⟩)
        go_roundw
        case rel => exact ⟨k + 1, _, by omega, by go_num, by go_num, hg', by repeat (first | assumption | refine Ext.alloc ?_ _)⟩
        case measure => simp [intOf]; omega
      · have HF : Hid (¬ faultB key val gone = 0) := hf
        have HS : Hid (faultsE es = faultB key val gone) := hg.stop HE.out hf
        clear hf
        go_wp2_with (go_at_call 20; refine (check_bad key val gone _ HF.out).mono ?_; rintro e w' ⟨⟨nn, rfl, hnn⟩, cc, rfl⟩; have HN : Hid (nn = faultB key val gone) := hnn; clear hnn)
        go_ret2
        have hb : bytesT es = ([], faultB key val gone) := by unfold bytesT; rw [HS.out, if_pos HF.out]
        refine ⟨?_, by repeat (first | assumption | refine Ext.alloc ?_ _)⟩
        rw [hb, HN.out]; unfold errV; rw [if_neg HF.out]; rfl
    · have hkn : k = es.length := by omega
      subst hkn
      have hok : Hid (faultsE es = 0) := by have := hg.ok; rwa [List.take_length] at this
      have hsz : size = 1 + lenT es := by have := hg.len; rwa [List.take_length] at this
      have hsm := hg.small
      have henc : (encT es).length = size := by rw [hsz]; unfold encT; rw [List.length_cons, lenT_enc]; omega
      have HZ : Hid ((encT es).length = size) := henc
      clear hg hsz henc
      by_cases h64 : size ≤ 64
      · go_wp2_with (at_make; refine wpList_make_own _ rfl _ _ 125 rfl w.heap.size 5 i0 (.int .u8 0) 1 Try.underlying125 hi hz0 hz1 _ _ _ size rfl rfl (by omega) ?b2 ?b3 hx.size ?_)
        case b2 => rw [hz2]; omega
        case b3 => unfold maxLen; omega
        intro w1 hown hgrow
        have hx1 : Ext w w1 := hx.grown hgrow (by intro k h; cases h)
        clear hgrow hx
        go_wp2_with (at_builtin; refine wpList_append_own _ rfl _ _ 125 rfl w.heap.size 5 i0 (.int .u8 0) 1 1 Try.underlying125 hi hz0 hz1 hz2 rfl (by decide) _ _ _ rfl (hown.alloc _) ⟨w1.heap.size, 0, none⟩ 1 1 [.int .u8 (es.length : Int)] rfl rfl ?c1 ?c2 ?c3 ?c4 ?c5 ?_)
        case c1 => exact news_cells (Blk.new _ _ _)
        case c2 => intro u hu; simp at hu; subst hu; rfl
        case c3 => unfold maxLen; omega
        case c4 => omega
        case c5 => have := hx1.size; simp; omega
        intro v2 w2 hown2 hgrow2 _
        have hx2 : Ext w w2 := (hx1.alloc _).grown hgrow2 (own_geP hown rfl)
        have hown3 : w2.ownsRow w.heap.size 5 1 v2 (encTo es 0).length (Lib.byteCells (encTo es 0)) := by
          have e : Lib.byteCells (encTo es 0) = [.int .u8 (es.length : Int)] := by simp [Lib.byteCells, encTo]; omega
          rw [e]; simpa [encTo] using hown2
        clear hgrow2 hown2 hown hx1 hk hlt
        go_wp2_with fail
        go_loopw [8, 46] (fun v i wx => ∃ (k : Nat), k ≤ es.length ∧ i = .int .i64 k ∧ wx.ownsRow w.heap.size 5 1 v (encTo es k).length (Lib.byteCells (encTo es k)) ∧ Ext w wx) (fun _ i _ => es.length - (intOf i).toNat)
        case atStart => exact ⟨0, Nat.zero_le _, rfl, hown3, hx2⟩
        case round =>
          clear hown3 hx2
          obtain ⟨k, hk, rfl, hown, hx⟩ := hrel
          by_cases hlt : k < es.length
          · obtain ⟨b, off, key, val, gone, rfl, he, h1, h2, h3⟩ := hes.get hlt
            have g1 := hx.cell h1
            have g2 := hx.cell h2
            have g3 := hx.cell h3
            have hle := encTo_le es k
            rw [HZ.out] at hle
            have HE : Hid (es[k]? = some (⟨key, val, gone⟩ : Ent)) := he
            have hkv := fault_zero (faultsE_zero hok.out _ (List.mem_of_getElem? he))
            obtain ⟨hk8, hv16⟩ := hkv
            dsimp only at hk8 hv16
            clear h1 h2 h3 he
            have hlt8 := hown.lt
            have hcc := encE_cells key val gone hk8 hv16
            have HC : Hid (Lib.byteCells (encE ⟨key, val, gone⟩) = [.int .u8 (goneN gone), .int .u8 (IntKind.u8.wrap (key.size : Int)), .int .u8 (IntKind.u8.wrap (val.size : Int))] ++ Lib.byteCells key.data.toList ++ Lib.byteCells val.data.toList) := hcc
            clear hcc
            go_wp2_with fail
            go_region_held3 (fun w' => w'.cell? ⟨wr.heap.size, 0, none⟩ = some (.string key) ∧ w'.cell? ⟨wr.heap.size, 1, none⟩ = some (.string val) ∧ w'.cell? ⟨wr.heap.size, 2, none⟩ = some (.bool gone))
              (first
                | go_keep
                | (go_split_ands
                   refine ⟨?_, ?_, ?_⟩
                   · (rw [hgrow.cell_far _ (by simp; omega) (by intro hh; have := hlt8 _ hh.symm; simp at this)]; simp [go_sem])
                   · (rw [hgrow.cell_far _ (by simp; omega) (by intro hh; have := hlt8 _ hh.symm; simp at this)]; simp [go_sem])
                   · (rw [hgrow.cell_far _ (by simp; omega) (by intro hh; have := hlt8 _ hh.symm; simp at this)]; simp [go_sem])))
              (first
                | (go_at_call 80; refine (gone_any gone _).mono ?_; rintro e w' ⟨rfl, rfl⟩)
                | (refine step_append_lies _ (by rfl) _ _ _ (by rfl) w.heap.size 5 i0 _ 1 1 Try.underlying125 hi hz0 hz1 hz2 rfl (by decide) _ _ _ (by rfl) (((hown.alloc _).alloc _).drew) ⟨wr.heap.size + 1, 0, none⟩ 3 3 [.int .u8 (goneN gone), .int .u8 (IntKind.u8.wrap (key.size : Int)), .int .u8 (IntKind.u8.wrap (val.size : Int))] (by rfl) (by rfl) (by exact news_cells (Blk.drew (Blk.new' (wr.alloc _) _ _ (n := wr.heap.size + 1) (by simp)))) (by simp [Value.oneCell']) (by decide) (by unfold maxLen; omega) (by omega) (by have := hx.size; simp; omega) (wr.heap.size + 2) (by simp) ?_; intro gg cap2 w3 hown3 hgrow hat hlt3))
            have hx3 : Ext w w3 := (((hx.alloc _).alloc _).drew).grown hgrow (own_geP hown rfl)
            have hgne : ¬ wr.heap.size = gg := by
              rcases hat with h | h
              · have := (hlt8 _ h).2; omega
              · omega
            obtain ⟨q1, q2, q3⟩ := ‹w3.cell? ⟨wr.heap.size, 0, none⟩ = some (.string key) ∧ w3.cell? ⟨wr.heap.size, 1, none⟩ = some (.string val) ∧ w3.cell? ⟨wr.heap.size, 2, none⟩ = some (.bool gone)›
            have hlt4 : wr.heap.size < w3.heap.size := by have := hgrow.size; simp at this; omega
            clear hgrow hat hown hlt8 hx g1 g2 g3
            go_wp2_with (at_builtin; refine Lib.wpList_append_own_string _ rfl (.tmp 64) (.tmp 66) 125 9 rfl w.heap.size 5 i0 Try.underlying125 Try.underlying9 hi hz0 hz1 hz2 _ _ _ rfl hown3 key rfl ?d1 ?d2 hx3.size ?_)
            case d1 => unfold maxLen; omega
            case d2 => omega
            intro v4 w4 hown4 hgrow4 _
            have q2' : w4.cell? ⟨wr.heap.size, 1, none⟩ = some (.string val) := by
              rw [hgrow4.cell_far _ hlt4 (by simpa [Value.ownBlock] using hgne)]; exact q2
            have hx4 : Ext w w4 := hx3.grown hgrow4 (own_geP hown3 rfl)
            clear hgrow4 hown3 q1 q2 q3
            go_wp2_with (at_builtin; refine Lib.wpList_append_own_string _ rfl (.tmp 68) (.tmp 70) 125 9 rfl w.heap.size 5 i0 Try.underlying125 Try.underlying9 hi hz0 hz1 hz2 _ _ _ rfl hown4 val rfl ?e1 ?e2 hx4.size ?_)
            case e1 => unfold maxLen; omega
            case e2 => omega
            intro v5 w5 hown5 hgrow5 _
            have hx5 : Ext w w5 := hx4.grown hgrow5 (own_geP hown4 rfl)
            have hown6 : w5.ownsRow w.heap.size 5 1 v5 (encTo es (k + 1)).length (Lib.byteCells (encTo es (k + 1))) := by
              rw [encTo_step HE.out, bc_app, HC.out]
              rw [strC, strC] at hown5
              have el : (encTo es k ++ encE ⟨key, val, gone⟩).length = (encTo es k).length + 3 + key.size + val.size := by rw [List.length_append, encE_len]; dsimp only; omega
              rw [el]
              simpa [List.append_assoc] using hown5
            clear hgrow5 hown5 hown4 q2'
            go_wp2
            go_roundw
            case rel => exact ⟨k + 1, by omega, by go_num, hown6, hx5⟩
            case measure => simp [intOf]; omega
          · have hkn : k = es.length := by omega
            subst hkn
            have henc : encTo es es.length = encT es := by unfold encTo encT; rw [List.take_length]
            rw [henc] at hown
            have HB : Hid (bytesT es = (encT es, 0)) := by unfold bytesT Hid; rw [if_neg (by simp [hok.out]), if_neg (by rw [HZ.out]; omega)]
            obtain ⟨hlen, hcase⟩ := hown
            rcases hcase with ⟨_, h0⟩ | ⟨gg, cap2, cur, rfl, _, hh, _, _, _, htake⟩
            · simp [encT] at h0
            · have hcv := run_convert_bytes_back (P := Try.prog) wr 125 9 5 ⟨gg, 0, none⟩ cap2 (encT es) Try.underlying125 Try.underlying5 Try.underlying9 (fun j hj => by
                rw [add_plain, Nat.zero_add]
                have hj2 : (Lib.byteCells (encT es))[j]? = some (.int .u8 ((encT es)[j].toNat : Int)) := by simp [Lib.byteCells, hj]
                rw [← htake, List.getElem?_take] at hj2
                split at hj2
                · simp only [World.cell?, hh]; simpa using hj2
                · simp at hj2)
              clear hlen htake henc hes
              go_wp2
              go_ret2
              refine ⟨?_, hx⟩
              rw [HB.out]; rfl
      · have HB : Hid (bytesT es = ([], 2)) := by unfold bytesT Hid; rw [if_neg (by simp [hok.out]), if_pos (by rw [HZ.out]; omega)]
        clear hes
        go_wp2_with fail
        go_ret2
        refine ⟨?_, hx⟩
        rw [HB.out]; rfl

end Go.Proofs.Ytpldeejagomfjaa
