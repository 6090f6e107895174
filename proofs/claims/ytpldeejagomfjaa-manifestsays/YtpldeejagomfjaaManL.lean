
/- Manifests on a chip, in plain words: which one is the newest. -/
import Derived.Test.YtpldeejagomfjaaManK
namespace Go.Proofs.Ytpldeejagomfjaa
open Go.RowKit Go.WideShapes

theorem byteL_app {h t : List UInt8} {i : Nat} (hi : i < h.length) : byteL (h ++ t) i = byteL h i := by
  unfold byteL; rw [List.getD_eq_getElem?_getD, List.getD_eq_getElem?_getD, List.getElem?_append_left hi]
/-- What is written is read. -/
theorem parse_pad {m : Man} (hf : manFault m = 0) (z : Nat) : parseB (encM m.ep m.lg m.nw m.od ++ List.replicate z 0) = some m := by
  obtain ⟨hE, hS⟩ := manF_zero hf
  obtain ⟨hr, hnd, _⟩ := scan_zero hS
  have h24 := nodup_le hr hnd
  have hG := hr m.lg (by simp)
  have hrn : ∀ x ∈ m.nw, 2 ≤ x ∧ x < 24 := fun x hx => hr x (by simp [hx])
  have hro : ∀ x ∈ m.od, 2 ≤ x ∧ x < 24 := fun x hx => hr x (by simp [hx])
  obtain ⟨ep, lg, nw, od⟩ := m
  dsimp only at *
  have hle : nw.length + od.length ≤ 23 := by simp at h24; omega
  obtain ⟨E, rfl⟩ := Int.eq_ofNat_of_zero_le (show 0 ≤ ep by omega)
  obtain ⟨G, rfl⟩ := Int.eq_ofNat_of_zero_le (show 0 ≤ lg by omega)
  have en : (UInt8.ofNat nw.length).toNat = nw.length := by simp; omega
  have eo : (UInt8.ofNat od.length).toNat = od.length := by simp; omega
  have x1 : ((byt ((E : Int) % 256)).toNat : Int) = (E : Int) % 256 := by
    have := byt_nat (E % 256) (by omega); simpa using this
  have x2 : ((byt ((E : Int) / 256 % 256)).toNat : Int) = (E : Int) / 256 % 256 := by
    have := byt_nat (E / 256 % 256) (by omega); simpa using this
  have x3 : ((byt ((E : Int) / 65536)).toNat : Int) = (E : Int) / 65536 := by
    have := byt_nat (E / 65536) (by omega); simpa using this
  have x4 := byt_nat G (by omega)
  have hlen : (encM (E : Int) (G : Int) nw od ++ List.replicate z 0).length = 7 + nw.length + od.length + z := by simp [encM]; omega
  have b0 : byteL (encM (E : Int) (G : Int) nw od ++ List.replicate z 0) 0 = 77 := rfl
  have b1 : byteL (encM (E : Int) (G : Int) nw od ++ List.replicate z 0) 1 = (byt ((E : Int) % 256)).toNat := rfl
  have b2 : byteL (encM (E : Int) (G : Int) nw od ++ List.replicate z 0) 2 = (byt ((E : Int) / 256 % 256)).toNat := rfl
  have b3 : byteL (encM (E : Int) (G : Int) nw od ++ List.replicate z 0) 3 = (byt ((E : Int) / 65536)).toNat := rfl
  have b4 : byteL (encM (E : Int) (G : Int) nw od ++ List.replicate z 0) 4 = (byt (G : Int)).toNat := rfl
  have b5 : byteL (encM (E : Int) (G : Int) nw od ++ List.replicate z 0) 5 = nw.length := en
  have b6 : byteL (encM (E : Int) (G : Int) nw od ++ List.replicate z 0) 6 = od.length := eo
  have d1 : ((encM (E : Int) (G : Int) nw od ++ List.replicate z 0).drop 7).take nw.length = nw.map byt := by
    rw [show nw.length = (nw.map byt).length by simp]; simp [encM, -List.length_map]
  have d2 : ((encM (E : Int) (G : Int) nw od ++ List.replicate z 0).drop (7 + nw.length)).take od.length = od.map byt := by
    rw [← List.drop_drop, show od.length = (od.map byt).length by simp, show nw.length = (nw.map byt).length by simp]; simp [encM, -List.length_map]
  have hraw : rawM (encM (E : Int) (G : Int) nw od ++ List.replicate z 0) = ⟨(E : Int), (G : Int), nw, od⟩ := by
    unfold rawM
    rw [b1, b2, b3, b4, b5, b6, d1, d2, x1, x2, x3, x4, numsOf_byt hrn, numsOf_byt hro, show (E : Int) % 256 + 256 * ((E : Int) / 256 % 256) + 65536 * ((E : Int) / 65536) = (E : Int) by omega]
  unfold parseB
  rw [hraw, if_pos ⟨by omega, b0, by omega, hf⟩]
theorem parse_padD {m : Man} (hf : manFault m = 0) : parseB (padD (manTxt m)) = some m := by
  have : padD (manTxt m) = encM m.ep m.lg m.nw m.od ++ List.replicate (64 - (manTxt m).size) 0 := rfl
  rw [this]; exact parse_pad hf _

def pgM (l : List Pg) (p : Nat) : Option Man := match l[p]? with
  | some (.whole d) => parseB d
  | _ => none
theorem pageM_pg (M : CM) (b p : Nat) : pageM M b p = pgM (M.pg b) p := rfl
theorem pgM_nil (p : Nat) : pgM [] p = none := rfl
theorem pgM_end (l : List Pg) (d : List UInt8) : pgM (l ++ [.whole d]) l.length = parseB d := by unfold pgM; simp
theorem pgM_snoc (l : List Pg) (x : Pg) (p : Nat) (m : Man) (h : pgM (l ++ [x]) p = some m) (hp : ¬ (p = l.length ∧ ∃ d, x = .whole d)) : pgM l p = some m := by
  rcases Nat.lt_trichotomy p l.length with h1 | h1 | h1
  · unfold pgM at h ⊢; rw [List.getElem?_append_left h1] at h; exact h
  · subst h1
    unfold pgM at h; simp at h
    cases x with
    | whole d => exact absurd ⟨rfl, d, rfl⟩ hp
    | torn => simp at h
  · unfold pgM at h; rw [List.getElem?_eq_none (by simp; omega)] at h; cases h
theorem pgM_lt {l : List Pg} {p : Nat} {m : Man} (h : pgM l p = some m) : p < l.length := by
  rcases Nat.lt_or_ge p l.length with h1 | h1
  · exact h1
  · unfold pgM at h; rw [List.getElem?_eq_none h1] at h; cases h
theorem pgM_app {l : List Pg} {x : Pg} {p : Nat} (h : p < l.length) : pgM (l ++ [x]) p = pgM l p := by
  unfold pgM; rw [List.getElem?_append_left h]
theorem pgM_torn8 (p : Nat) : pgM (List.replicate 8 .torn) p = none := by
  unfold pgM
  rcases Nat.lt_or_ge p 8 with h | h
  · rw [torn8 p h]
  · rw [List.getElem?_eq_none (by simpa using h)]

def epO (o : Option Man) : Int := match o with
  | none => 1
  | some m => m.ep
/-- The newest one (if there is one) is in block a; it can be noted on. -/
structure Nst (M : CM) (a : Nat) (o : Option Man) : Prop where
  le : a ≤ 1
  up : M.pend = none
  sound : ∀ b, b < 2 → M.wk b = false ∧ M.bd b = false
  len : ∀ b, b < 2 → (M.pg b).length ≤ 8
  new : ∃ p, pageM M a p = o ∧ ∀ b q m', b < 2 → ¬ (b = a ∧ q = p) → pageM M b q = some m' → m'.ep < epO o
theorem Nst.low {M : CM} {a : Nat} {o : Option Man} (h : Nst M a o) {e : Int} (h1 : 1 ≤ e) (h2 : ∀ m, o = some m → m.ep < e) : ∀ b q m', b < 2 → pageM M b q = some m' → m'.ep < e := by
  obtain ⟨p, hp, hl⟩ := h.new
  intro b q m' hb hq
  by_cases hc : b = a ∧ q = p
  · obtain ⟨rfl, rfl⟩ := hc
    rw [hp] at hq
    exact h2 m' hq
  · have := hl b q m' hb hc hq
    cases o with
    | none => simp only [epO] at this; omega
    | some m => have := h2 m rfl; simp only [epO] at *; omega
/-- What changes neither pages nor whether blocks are sound. -/
theorem Nst.keep {M M' : CM} {a : Nat} {o : Option Man} (h : Nst M a o) (hp : M'.pend = none) (h1 : M'.pg = M.pg) (h2 : M'.wk = M.wk) (h3 : M'.bd = M.bd) : Nst M' a o := by
  refine ⟨h.le, hp, by rw [h2, h3]; exact h.sound, by rw [h1]; exact h.len, ?_⟩
  obtain ⟨p, hp, hl⟩ := h.new
  refine ⟨p, by rw [pageM_pg, h1, ← pageM_pg]; exact hp, fun b q m' hb hn hq => hl b q m' hb hn (by rw [pageM_pg, ← h1, ← pageM_pg]; exact hq)⟩

/-- Good: more than what is seen is not there; what is seen is there. -/
structure Seen (M : CM) (b k : Nat) (o : Option (Man × Nat)) : Prop where
  low : ∀ b' p' m', (b' < b ∧ p' < 8 ∨ b' = b ∧ p' < k) → pageM M b' p' = some m' → m'.ep ≤ (oM o).ep
  is : ∀ m a, o = some (m, a) → ∃ p, (a < b ∧ p < 8 ∨ a = b ∧ p < k) ∧ pageM M a p = some m
theorem Seen.step {M : CM} {b k : Nat} {o : Option (Man × Nat)} (h : Seen M b k o) : Seen M b (k + 1) (better o b (pageM M b k)) := by
  cases hq : pageM M b k with
  | none =>
    refine ⟨fun b' p' m' hs hp => ?_, fun m a he => ?_⟩
    · by_cases hc : b' = b ∧ p' = k
      · rw [hc.1, hc.2, hq] at hp; cases hp
      · exact h.low b' p' m' (by omega) hp
    · obtain ⟨p, h1, h2⟩ := h.is m a he
      exact ⟨p, by omega, h2⟩
  | some m0 =>
    simp only [better]
    split
    · rename_i hlt
      refine ⟨fun b' p' m' hs hp => ?_, fun m a he => ?_⟩
      · show m'.ep ≤ m0.ep
        by_cases hc : b' = b ∧ p' = k
        · rw [hc.1, hc.2, hq] at hp; cases hp; omega
        · have := h.low b' p' m' (by omega) hp; omega
      · simp at he
        obtain ⟨rfl, rfl⟩ := he
        exact ⟨k, by omega, hq⟩
    · rename_i hge
      refine ⟨fun b' p' m' hs hp => ?_, fun m a he => ?_⟩
      · by_cases hc : b' = b ∧ p' = k
        · rw [hc.1, hc.2, hq] at hp; cases hp; omega
        · exact h.low b' p' m' (by omega) hp
      · obtain ⟨p, h1, h2⟩ := h.is m a he
        exact ⟨p, by omega, h2⟩
theorem Seen.scan {M : CM} {b : Nat} {o : Option (Man × Nat)} (h : Seen M b 0 o) : ∀ k, Seen M b k (scanB M b o k)
  | 0 => h
  | k + 1 => (Seen.scan h k).step
theorem seen_out (M : CM) : ∀ b, Seen M b 0 (outS M b)
  | 0 => ⟨fun b' p' m' h => by omega, fun m a h => by cases h⟩
  | b + 1 => by
    have := (seen_out M b).scan 8
    refine ⟨fun b' p' m' hs hp => this.low b' p' m' (by omega) hp, fun m a he => ?_⟩
    obtain ⟨p, h1, h2⟩ := this.is m a he
    exact ⟨p, by omega, h2⟩
theorem find_some {M : CM} {a : Nat} {m : Man} (h : Nst M a (some m)) : findS M = some (m, a) := by
  have hs := seen_out M 2
  obtain ⟨p, hp, hl⟩ := h.new
  have hf := pageM_fault hp
  have hep := (manFault_ep hf).1
  have hp8 : p < 8 := by
    have := pgM_lt hp; have := h.len a (by have := h.le; omega); omega
  have h1 := hs.low a p m (by have := h.le; omega) hp
  show outS M 2 = _
  cases ho : outS M 2 with
  | none => rw [ho] at h1; simp only [oM] at h1; omega
  | some n =>
    obtain ⟨m', a'⟩ := n
    rw [ho] at h1
    simp only [oM] at h1
    obtain ⟨p', h2, h3⟩ := hs.is m' a' ho
    by_cases hc : a' = a ∧ p' = p
    · rw [hc.1, hc.2, hp] at h3; cases h3; rw [hc.1]
    · have := hl a' p' m' (by omega) hc h3
      simp only [epO] at this; omega
theorem find_none {M : CM} {a : Nat} (h : Nst M a none) : findS M = none := by
  have hs := seen_out M 2
  show outS M 2 = none
  cases ho : outS M 2 with
  | none => rfl
  | some n =>
    obtain ⟨m', a'⟩ := n
    obtain ⟨p', h2, h3⟩ := hs.is m' a' ho
    have := h.low (e := 1) (by omega) (fun m hm => by cases hm) a' p' m' (by omega) h3
    have := (manFault_ep (pageM_fault h3)).1
    omega
end Go.Proofs.Ytpldeejagomfjaa
