
/- All lists are put together. -/
import Derived.Test.YtpldeejagomfjaaMrgA
namespace Go.Proofs.Ytpldeejagomfjaa
open Go.RowKit

/-- A list of entries, and where it lies. -/
structure LE where
  es : List Ent
  ao : Option Addr
  cap : Nat
/-- In world w the slice at 'ao' holds the lists 'ls'. -/
def ListsAt (w : World) (ao : Option Addr) (ls : List LE) : Prop :=
  ls ≠ [] → ∃ b off, ao = some ⟨b, off, none⟩ ∧ ∀ i l, ls[i]? = some l → w.cell? ⟨b, off + i, none⟩ = some (.slice l.ao l.es.length l.cap) ∧ l.es.length ≤ l.cap ∧ EntsAt w l.ao l.es
theorem ListsAt.get {w : World} {ao : Option Addr} {ls : List LE} (h : ListsAt w ao ls) {k : Nat} (hk : k < ls.length) :
    ∃ b off es eo ec, ao = some ⟨b, off, none⟩ ∧ ls[k]? = some ⟨es, eo, ec⟩ ∧ w.cell? ⟨b, off + k, none⟩ = some (.slice eo es.length ec) ∧ es.length ≤ ec ∧ EntsAt w eo es := by
  obtain ⟨b, off, rfl, hc⟩ := h (by intro e; subst e; simp at hk)
  have he : ls[k]? = some ls[k] := List.getElem?_eq_getElem hk
  exact ⟨b, off, ls[k].es, ls[k].ao, ls[k].cap, rfl, he, hc k _ he⟩
theorem ListsAt.ext {w w' : World} {ao : Option Addr} {ls : List LE} (h : ListsAt w ao ls) (hx : Ext w w') : ListsAt w' ao ls := by
  intro hne
  obtain ⟨b, off, rfl, hc⟩ := h hne
  exact ⟨b, off, rfl, fun i l hl => ⟨hx.cell (hc i l hl).1, (hc i l hl).2.1, (hc i l hl).2.2.ext hx⟩⟩
/-- What l[:h] and l[h:] lead to. -/
def hd1 (ao : Option Addr) (cap : Nat) : Option Addr := if cap = 0 then ao else ao.map (·.add 0)
def fr1 (ao : Option Addr) (cap h : Nat) : Option Addr := if cap = h then ao else ao.map (·.add h)
theorem run_hd (W : World) (ao : Option Addr) (n cap h : Nat) (hh : h ≤ cap) : (Instr.slice 94 (.slice ao n cap) none (some (.int .i64 (h : Int))) none).run Try.prog W = .ok (.slice (hd1 ao cap) h cap) W := by
  have hu : Try.prog.underlying 94 = some (.slice (Try.prog.elem 94)) := by kernel_rfl
  have hz : (sizeOf (Try.prog.elem 94)).run Try.prog W = .ok 1 W := by kernel_rfl
  rw [run_slice_h W 94 ao n cap hu .i64 (h : Int) (by omega) (by omega), hz]
  simp [Result.andThen, sliced, hd1]
theorem run_fr (W : World) (ao : Option Addr) (n cap h : Nat) (hh : h ≤ n) : (Instr.slice 94 (.slice ao n cap) (some (.int .i64 (h : Int))) none none).run Try.prog W = .ok (.slice (fr1 ao cap h) (n - h) (cap - h)) W := by
  have hu : Try.prog.underlying 94 = some (.slice (Try.prog.elem 94)) := by kernel_rfl
  have hz : (sizeOf (Try.prog.elem 94)).run Try.prog W = .ok 1 W := by kernel_rfl
  rw [run_slice_l W 94 ao n cap hu .i64 (h : Int) (by omega) (by omega), hz]
  simp [Result.andThen, sliced, fr1]
theorem ListsAt.hd {w : World} {ao : Option Addr} {ls : List LE} {cap h : Nat} (hl : ListsAt w ao ls) : ListsAt w (hd1 ao cap) (ls.take h) := by
  intro hne
  obtain ⟨b, off, rfl, hc⟩ := hl (by intro e; subst e; simp at hne)
  have e : hd1 (some ⟨b, off, none⟩) cap = some ⟨b, off, none⟩ := by
    unfold hd1; split
    · rfl
    · simp [Addr.add]
  refine ⟨b, off, e, fun i l hi => hc i l ?_⟩
  rw [List.getElem?_take] at hi
  split at hi
  · exact hi
  · simp at hi
theorem ListsAt.fr {w : World} {ao : Option Addr} {ls : List LE} {cap h : Nat} (hl : ListsAt w ao ls) (hcap : ls.length ≤ cap) : ListsAt w (fr1 ao cap h) (ls.drop h) := by
  intro hne
  obtain ⟨b, off, rfl, hc⟩ := hl (by intro e; subst e; simp at hne)
  have h1 : ¬ cap = h := by
    intro e; subst e
    exact hne (List.drop_of_length_le hcap)
  have e : fr1 (some ⟨b, off, none⟩) cap h = some ⟨b, off + h, none⟩ := by
    unfold fr1; rw [if_neg h1]
    simp only [Option.map_some, Option.some.injEq, Addr.add]
    by_cases h0 : h = 0 <;> simp [h0]
  refine ⟨b, off + h, e, fun i l hi => ?_⟩
  rw [List.getElem?_drop] at hi
  have := hc (h + i) l hi
  rwa [show off + (h + i) = off + h + i by omega] at this

/-- A list is answered. -/
def RetL (w w' : World) (e : Ending) (es : List Ent) : Prop := ∃ ao cap, e = .returned (.slice ao es.length cap) ∧ es.length ≤ cap ∧ EntsAt w' ao es ∧ Ext w w'
theorem Lst.ret {w w' : World} {v : Value} {es : List Ent} (h : Lst w w' v es) : RetL w w' (.returned v) es := by
  obtain ⟨ao, cap, hv, ha⟩ := h.at
  refine ⟨ao, cap, by rw [hv], ?_, ha, h.ext⟩
  rcases h.own.2 with ⟨h1, h2⟩ | ⟨g, cap2, cur, h1, _, _, h3, _⟩
  · omega
  · rw [hv] at h1; simp at h1; omega
theorem two_ret (ao bo : Option Addr) (ca cb : Nat) (xs ys : List Ent) (w : World) (ha : xs.length ≤ 1000) (hb : ys.length ≤ 1000) (hca : xs.length ≤ ca) (hcb : ys.length ≤ cb) (hA : EntsAt w ao xs) (hB : EntsAt w bo ys) :
    Calls Try.prog 62 #[.slice ao xs.length ca, .slice bo ys.length cb] w fun e w' => RetL w w' e (twoE xs ys) := by
  refine (two_any ao bo ca cb xs ys w ha hb hca hcb hA hB).mono ?_
  rintro e w' ⟨v, rfl, h⟩
  exact h.ret

/-- Few lists that rise, each not long. -/
structure Few (ls : List LE) : Prop where
  ris : ∀ l ∈ ls, Ris l.es
  len : ∀ l ∈ ls, l.es.length ≤ 40
theorem Few.sub {ls ms : List LE} (h : Few ls) (hs : ∀ l ∈ ms, l ∈ ls) : Few ms := ⟨fun l hl => h.ris l (hs l hl), fun l hl => h.len l (hs l hl)⟩
def alls (ls : List LE) : List Ent := allE (ls.map LE.es)
theorem putE_len (l : List Ent) (e : Ent) : (putE l e).length ≤ l.length + 1 := by
  induction l with
  | nil => simp [putE]
  | cons x r ih => unfold putE; split <;> (try split) <;> simp <;> omega
theorem puts_len (l es : List Ent) : (putsE l es).length ≤ l.length + es.length := by
  induction es generalizing l with
  | nil => simp [putsE]
  | cons x r ih =>
    have h1 := ih (putE l x)
    have h2 := putE_len l x
    show (putsE (putE l x) r).length ≤ _
    simp; omega
theorem alls_len {ls : List LE} (h : Few ls) : (alls ls).length ≤ 40 * ls.length := by
  induction ls with
  | nil => simp [alls, allE]
  | cons x r ih =>
    have h1 := ih (h.sub (by simp +contextual))
    have h2 := puts_len (alls r) x.es
    have h3 := h.len x (by simp)
    show (putsE (alls r) x.es).length ≤ _
    simp; omega
theorem alls_split {ls : List LE} (h : Few ls) (k : Nat) : alls ls = twoE (alls (ls.take k)) (alls (ls.drop k)) := by
  have := allE_app (a := (ls.take k).map LE.es) (b := (ls.drop k).map LE.es) (by
    intro l hl
    obtain ⟨x, hx, rfl⟩ := List.mem_map.1 hl
    exact h.ris x (List.mem_of_mem_take hx))
  unfold alls
  rw [← this, ← List.map_append, List.take_append_drop]
theorem alls_ris (ls : List LE) : Ris (alls ls) := Ris.all _

set_option maxRecDepth 20000 in
set_option maxHeartbeats 2000000 in
theorem all_any (n : Nat) : ∀ (ao : Option Addr) (cap : Nat) (ls : List LE) (w : World) (_ : ls.length ≤ n) (_ : ls.length ≤ 20) (_ : ls.length ≤ cap) (_ : Few ls) (_ : ListsAt w ao ls),
    Calls Try.prog 64 #[.slice ao ls.length cap] w fun e w' => RetL w w' e (alls ls) := by
  induction n with
  | zero =>
    intro ao cap ls w hn _ _ _ _
    have : ls = [] := List.eq_nil_of_length_eq_zero (by omega)
    subst this
    go_enter Try.func64, Try.ntmps64
    go_wp2
    go_ret
    exact ⟨none, 0, rfl, by simp [alls, allE], fun h => absurd rfl h, Ext.refl _⟩
  | succ n ih =>
    intro ao cap ls w hn h20 hcap hF hA
    rcases (show ls.length = 0 ∨ ls.length = 1 ∨ 2 ≤ ls.length by omega) with h0 | h0 | h0
    · have : ls = [] := List.eq_nil_of_length_eq_zero h0
      subst this
      go_enter Try.func64, Try.ntmps64
      go_wp2
      go_ret
      exact ⟨none, 0, rfl, by simp [alls, allE], fun h => absurd rfl h, Ext.refl _⟩
    · obtain ⟨b, off, es, eo, ec, rfl, he, h1, h2, h3⟩ := hA.get (k := 0) (by omega)
      obtain ⟨l, rfl⟩ := List.length_eq_one_iff.1 h0
      obtain rfl : l = ⟨es, eo, ec⟩ := by simpa using he
      have hl := hF.len ⟨es, eo, ec⟩ (by simp)
      have hr := hF.ris ⟨es, eo, ec⟩ (by simp)
      dsimp only at hl hr
      have CT : Hid (Calls Try.prog 62 #[.slice eo es.length ec, .slice none 0 0] w fun e w' => RetL w w' e es) := by
        have := two_ret eo none ec 0 es [] w (by omega) (by simp) h2 (by simp) h3 (fun h => absurd rfl h)
        rw [two_nil] at this
        exact this
      have HE : Hid (alls [⟨es, eo, ec⟩] = es) := allE_one hr
      simp only [Nat.add_zero] at h1
      clear he hA hF hr h3 ih
      simp only [List.length_cons, List.length_nil] at *
      go_enter Try.func64, Try.ntmps64
      go_wp2_with (go_at_call 62; refine CT.out.mono ?_; rintro e w' ⟨ao2, cap2, rfl, hc2, ha2, hx2⟩)
      go_ret
      exact ⟨ao2, cap2, by rw [HE.out]; rfl, by rw [HE.out]; exact hc2, by rw [HE.out]; exact ha2, hx2⟩
    · obtain ⟨h, hh⟩ : ∃ h : Nat, h = ls.length / 2 := ⟨_, rfl⟩
      have r1 := fun W => run_hd W ao ls.length cap h (by omega)
      have r2 := fun W => run_fr W ao ls.length cap h (by omega)
      have hq : ((ls.length : Nat) : Int).tdiv 2 = (h : Int) := by rw [Int.tdiv_eq_ediv_of_nonneg (Int.natCast_nonneg _), hh]; omega
      have hwr : wrap64 (h : Int) = (h : Int) := by unfold wrap64; omega
      have n1 : ((ls.length : Int) == 0) = false := by rw [beq_eq_false_iff_ne]; omega
      have n2 : ((ls.length : Int) == 1) = false := by rw [beq_eq_false_iff_ne]; omega
      have CA : Hid (∀ W, Ext w W → Calls Try.prog 64 #[.slice (hd1 ao cap) h cap] W fun e w' => RetL W w' e (alls (ls.take h))) := fun W hx => by
        have := ih (hd1 ao cap) cap (ls.take h) W (by simp; omega) (by simp; omega) (by simp; omega) (hF.sub fun l hl => List.mem_of_mem_take hl) (hA.hd.ext hx)
        rwa [show (ls.take h).length = h by simp; omega] at this
      have CB : Hid (∀ W, Ext w W → Calls Try.prog 64 #[.slice (fr1 ao cap h) (ls.length - h) (cap - h)] W fun e w' => RetL W w' e (alls (ls.drop h))) := fun W hx => by
        have := ih (fr1 ao cap h) (cap - h) (ls.drop h) W (by simp; omega) (by simp; omega) (by simp; omega) (hF.sub fun l hl => List.mem_of_mem_drop hl) ((hA.fr hcap).ext hx)
        rwa [show (ls.drop h).length = ls.length - h by simp] at this
      have la := alls_len (hF.sub (ms := ls.take h) fun l hl => List.mem_of_mem_take hl)
      have lb := alls_len (hF.sub (ms := ls.drop h) fun l hl => List.mem_of_mem_drop hl)
      have HE : Hid (alls ls = twoE (alls (ls.take h)) (alls (ls.drop h))) := alls_split hF h
      have la' : (alls (ls.take h)).length ≤ 1000 := by simp at la; omega
      have lb' : (alls (ls.drop h)).length ≤ 1000 := by simp at lb; omega
      clear ih hF hA la lb hh
      generalize alls (ls.take h) = xs at *
      generalize alls (ls.drop h) = ys at *
      go_enter Try.func64, Try.ntmps64
      go_wp2_with fail
      go_region_held3 (fun _ => True) (trivial)
        (first
          | (go_at_call_of 64 (Value.slice (hd1 ao cap) h cap); refine (CA.out _ (by repeat (first | exact Ext.refl _ | refine Ext.drew ?_ | refine Ext.drewN ?_ _))).mono ?_; rintro e w2 ⟨ao2, cap2, rfl, hc2, ha2, hx2⟩)
          | (go_at_call_of 64 (Value.slice (fr1 ao cap h) (ls.length - h) (cap - h)); refine (CB.out _ (by repeat (first | exact Ext.refl _ | refine Ext.drew ?_ | refine Ext.drewN ?_ _ | refine Ext.trans ?_ hx2))).mono ?_; rintro e w3 ⟨ao3, cap3, rfl, hc3, ha3, hx3⟩)
          | (go_at_call 62; refine (two_ret ao2 ao3 cap2 cap3 xs ys _ la' lb' hc2 hc3 (ha2.ext hx3) ha3).mono ?_; rintro e w4 ⟨ao4, cap4, rfl, hc4, ha4, hx4⟩))
      go_wp2
      go_ret
      have hE := HE.out
      exact ⟨ao4, cap4, by rw [hE]; rfl, by rw [hE]; exact hc4, by rw [hE]; exact ha4, ((Ext.refl w).drew.trans hx2).trans (hx3.trans hx4)⟩
end Go.Proofs.Ytpldeejagomfjaa
