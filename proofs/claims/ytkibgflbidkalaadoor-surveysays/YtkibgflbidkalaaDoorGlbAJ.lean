/- GlbA. -/
import Derived.Test.YtkibgflbidkalaaDoorStoAJ
import Derived.Test.YtkibgflbidkalaaDoorCards
import Derived.Test.YtkibgflbidkalaaDoorTie
import Derived.Lib.LaidU8

/- The tables that are laid. -/
namespace Go.Proofs.YtkibgflbidkalaaDoor
open Go.WideShapes Go.RowKit

def bits64 : List Int := [0, 1, 56, 2, 57, 49, 28, 3, 61, 58, 42, 50, 38, 29, 17, 4, 62, 47, 59, 36, 45, 43, 51, 22, 53, 39, 33, 30, 24, 18, 12, 5, 63, 55, 48, 27, 60, 41, 37, 16, 46, 35, 44, 21, 52, 32, 23, 11, 54, 26, 40, 15, 34, 20, 31, 10, 25, 14, 19, 9, 13, 8, 7, 6]
theorem bits64_is : (Rows.laid_math_bits_deBruijn64tab : DataW Unit) = Lib.tabData .u8 bits64 := rfl
theorem glob_of_laid {W : World} {l : List (String × DataW Unit)} (h : laidMet Tryd.prog l W) (hm : ("math/bits.deBruijn64tab", Rows.laid_math_bits_deBruijn64tab) ∈ l) : GlobT W := by
  obtain ⟨g, t, cs, fuel, p, h1, h2, h3, h4⟩ := Lib.laidMet.reads h hm
  obtain rfl : g = 1 := Option.some.inj (h1.symm.trans (by kernel_rfl))
  obtain rfl : t = 75 := Option.some.inj (h2.symm.trans (by kernel_rfl))
  rw [bits64_is] at h4
  have hcs := Lib.cells_of_tab (n := 64) (e := 5) (by kernel_rfl) (by kernel_rfl) (by kernel_rfl) (by kernel_rfl) h4
  have hb : ∃ ty fr, W.heap[(1 : Nat)]? = some (.cells cs ty fr) := by
    unfold World.var? at h3
    rw [h1] at h3
    simp only [Option.bind_some] at h3
    split at h3
    · rename_i cs' ty fr hh
      cases h3
      exact ⟨ty, fr, hh⟩
    · cases h3
  obtain ⟨ty, fr, hb⟩ := hb
  refine ⟨fun i => (bits64.getD i 0).toNat, fun i hi => ?_⟩
  have hz : bits64[i]? = some (((bits64.getD i 0).toNat : Nat) : Int) ∧ (bits64.getD i 0).toNat < 256 := by
    have : ∀ j : Fin 64, bits64[j.val]? = some (((bits64.getD j.val 0).toNat : Nat) : Int) ∧ (bits64.getD j.val 0).toNat < 256 := by decide +kernel
    exact this ⟨i, hi⟩
  refine ⟨?_, hz.2⟩
  have hc : cs[i]? = some (.int .u8 (((bits64.getD i 0).toNat : Nat) : Int)) := by
    rw [← Array.getElem?_toList, hcs, List.getElem?_map, hz.1]; rfl
  simp only [World.cell?, hb]
  exact hc
end Go.Proofs.YtkibgflbidkalaaDoor
