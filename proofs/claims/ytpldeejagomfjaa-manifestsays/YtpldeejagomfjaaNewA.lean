
/- TopNewest: what it stands on. -/
import Derived.Test.YtpldeejagomfjaaManM
namespace Go.Proofs.Ytpldeejagomfjaa
open Go.RowKit Go.WideShapes

def man (ep lg : Int) : Man := ⟨ep, lg, [], []⟩
def manA (ep lg : Int) : Value := .agg #[.int .i64 ep, .int .i64 lg, .slice none 0 0, .slice none 0 0]
theorem man_ok {ep lg : Int} (h1 : 1 ≤ ep) (h2 : ep ≤ 100000) (h3 : 2 ≤ lg) (h4 : lg < 24) : manFault (man ep lg) = 0 := by
  unfold manFault manF man
  rw [if_neg (by simp only; omega)]
  simp only [List.append_nil, scan]
  rw [if_neg (by omega)]
  simp
theorem i64_and15 (n : Int) : bits .and .i64 n 15 = n % 16 := by
  have h15 : (BitVec.ofInt 64 15).toNat = 2 ^ 4 - 1 := by decide
  have key : (BitVec.ofInt 64 n &&& BitVec.ofInt 64 15).toNat = (n % ((2 ^ 64 : Nat) : Int)).toNat % 2 ^ 4 := by
    rw [BitVec.toNat_and, BitVec.toNat_ofInt, h15, Nat.and_two_pow_sub_one_eq_mod]
  show IntKind.i64.wrap ((BitVec.ofInt 64 n &&& BitVec.ofInt 64 15).toNat : Nat) = n % 16
  rw [key, IntKind.wrap_i64]
  omega
/-- Note, of a manifest without tables, where all goes well. -/
theorem note_well (cb a : Nat) (M : CM) (ep lg : Int) (o : Option Man) (no oo : Option Addr) (nc oc : Nat) (w : World) (h : ChipAt w cb M) (hub : M.left ≤ 9223372036854775807) (hwr : WrOk M) (hs : Nst M a o) (hf : manFault (man ep lg) = 0) (he : noteE M a (manTxt (man ep lg)) = 0) :
    Calls Try.prog 78 #[.pointer (some ⟨cb, 0, none⟩), .int .i64 (a : Int), .agg #[.int .i64 ep, .int .i64 lg, .slice no 0 nc, .slice oo 0 oc]] w fun e w' => e = .returned (.tuple #[.int .i64 (noteAt M a : Int), .nilIface]) ∧ ChipAt w' cb (noteM M a (manTxt (man ep lg))) ∧ w.grownBy w' (some cb) := by
  refine (note_any cb a M (man ep lg) no oo nc oc w h hs.le hub hwr (NumsAt.nil w no) (NumsAt.nil w oo) hf).mono ?_
  rintro e w' ⟨h1 | h1, h2, h3⟩
  · exact ⟨h1.2, h2, h3⟩
  · exact absurd he h1.1
theorem note_down (cb a : Nat) (M : CM) (ep lg : Int) (o : Option Man) (no oo : Option Addr) (nc oc : Nat) (w : World) (h : ChipAt w cb M) (hub : M.left ≤ 9223372036854775807) (hwr : WrOk M) (hs : Nst M a o) (hf : manFault (man ep lg) = 0) (he : noteE M a (manTxt (man ep lg)) = 9) :
    Calls Try.prog 78 #[.pointer (some ⟨cb, 0, none⟩), .int .i64 (a : Int), .agg #[.int .i64 ep, .int .i64 lg, .slice no 0 nc, .slice oo 0 oc]] w fun e w' => e = .returned (.tuple #[.int .i64 0, .iface 123 (.int .i64 9)]) ∧ ChipAt w' cb (noteM M a (manTxt (man ep lg))) ∧ w.grownBy w' (some cb) := by
  refine (note_any cb a M (man ep lg) no oo nc oc w h hs.le hub hwr (NumsAt.nil w no) (NumsAt.nil w oo) hf).mono ?_
  rintro e w' ⟨h1 | h1, h2, h3⟩
  · rw [he] at h1; exact absurd h1.1 (by decide)
  · rw [he] at h1; exact ⟨h1.2, h2, h3⟩
theorem find_well (cb a : Nat) (M : CM) (ep lg : Int) (w : World) (h : ChipAt w cb M) (hs : Nst M a (some (man ep lg))) :
    Calls Try.prog 77 #[.pointer (some ⟨cb, 0, none⟩)] w fun e w' => ∃ a1 c1 a2 c2, e = .returned (.tuple #[.agg #[.int .i64 ep, .int .i64 lg, .slice a1 0 c1, .slice a2 0 c2], .int .i64 (a : Int), .nilIface]) ∧ Ext w w' := by
  refine (find_up cb M w h (by unfold downB; rw [hs.up]; rfl)).mono ?_
  rw [find_some hs]
  rintro e w' ⟨hx, ⟨m, a', a1, c1, a2, c2, h1, rfl, _, _⟩ | ⟨h1, _⟩⟩
  · cases h1; exact ⟨a1, c1, a2, c2, rfl, hx⟩
  · cases h1
theorem same_small (ep lg ep' lg' : Int) (no oo no' oo' : Option Addr) (nc oc nc' oc' : Nat) (w : World) :
    Calls Try.prog 76 #[.agg #[.int .i64 ep, .int .i64 lg, .slice no 0 nc, .slice oo 0 oc], .agg #[.int .i64 ep', .int .i64 lg', .slice no' 0 nc', .slice oo' 0 oc']] w fun e w' => e = .returned (.bool (decide (ep = ep' ∧ lg = lg'))) ∧ Ext w w' :=
  sameM_any ep lg ep' lg' no oo no' oo' nc oc nc' oc' [] [] w (by simp) (by simp) (NumsAt.nil w _) (NumsAt.nil w _) (NumsAt.nil w _) (NumsAt.nil w _)

/-- The chip, the last one and the next one, as they lie. -/
structure TN (w wr : World) (cb L : Nat) (M : CM) (ep lg ep' lg' : Int) : Prop where
  chip : ChipAt wr cb M
  last : Blk wr L #[.int .i64 ep, .int .i64 lg, .slice none 0 0, .slice none 0 0] 100
  next : Blk wr (L + 1) #[.int .i64 ep', .int .i64 lg', .slice none 0 0, .slice none 0 0] 100
  ext : Ext w wr
  old : w.heap.size ≤ cb
  far : cb < L
theorem ChipAt.lt {w : World} {cb : Nat} {M : CM} (h : ChipAt w cb M) : cb < w.heap.size := by
  obtain ⟨⟨cs, fv, h1, _⟩, _⟩ := h
  exact h1.lt
/-- The chip alone changes. -/
theorem TN.grown {w wr wx : World} {cb L : Nat} {M M' : CM} {ep lg ep' lg' : Int} (h : TN w wr cb L M ep lg ep' lg') (hg : wr.grownBy wx (some cb)) (hc : ChipAt wx cb M') : TN w wx cb L M' ep lg ep' lg' := by
  have h1 := h.far
  refine ⟨hc, h.last.grown hg (by omega), h.next.grown hg (by omega), h.ext.grown hg (fun k hk => ?_), h.old, h.far⟩
  cases hk; exact h.old
theorem TN.more {w wr wx : World} {cb L : Nat} {M : CM} {ep lg ep' lg' : Int} (h : TN w wr cb L M ep lg ep' lg') (hx : Ext wr wx) : TN w wx cb L M ep lg ep' lg' :=
  ⟨h.chip.ext hx, Blk.ext hx h.last, Blk.ext hx h.next, h.ext.trans hx, h.old, h.far⟩
theorem ChipAt.other {w : World} {cb g : Nat} {M : CM} (h : ChipAt w cb M) (hp : M.pend = none) (hne : ¬ g = cb) (i : Nat) (v : Value) : ChipAt (w.setCell ⟨g, i, none⟩ v) cb M := by
  obtain ⟨⟨cs, fv, h1, h2, h3⟩, h4⟩ := h
  refine ⟨⟨cs, fv, h1.other (show cb ≠ g from fun e => hne e.symm) v, h2, ?_⟩, h4⟩
  rw [hp] at h3 ⊢
  exact h3
end Go.Proofs.Ytpldeejagomfjaa
