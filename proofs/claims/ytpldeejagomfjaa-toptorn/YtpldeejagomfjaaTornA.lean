
/- A step that the machine falls in: plain words. -/
import Derived.Test.YtpldeejagomfjaaOnceA
namespace Go.Proofs.Ytpldeejagomfjaa
open Go.RowKit

/-- The next step is one that the machine falls in. -/
def armM (M : CM) (n : Int) : CM := { M with left := n }
def pendOf (A : Nat) (s : ByteArray) (er : Bool) : Pend := if er then .erase A else .write A (padD s)
def tornM (M : CM) (A : Nat) (s : ByteArray) (er : Bool) : CM := if er then eraseM (armM M 0) (A : Int) else writeM (armM M 0) (A : Int) s
def tornE (M : CM) (A : Nat) (s : ByteArray) (er : Bool) : Int := if er then eraseE (armM M 0) (A : Int) else writeE (armM M 0) (A : Int) s

theorem write_torn (M : CM) (hl : M.left = 0) (hp : M.pend = none) (A : Nat) (s : ByteArray) (hA : A < 24) (h8 : (M.pg A).length ≤ 8) :
    (writeE M (A : Int) s = 9 ∧ writeM M (A : Int) s = { M with pend := some (.write A (padD s)) } ∧ (M.pg A).length < 8) ∨
    (¬ writeE M (A : Int) s = 9 ∧ ¬ writeE M (A : Int) s = 0 ∧ downB (writeM M (A : Int) s) = false) := by
  have hd : downB M = false := by unfold downB; rw [hp]; rfl
  unfold writeE writeM
  rw [Int.toNat_natCast]
  by_cases hr : readyE M (A : Int) = 0
  · have hr' : ¬ ¬ readyE M (A : Int) = 0 := by simp [hr]
    rw [if_neg hr', if_neg hr']
    by_cases h64 : 64 < s.size
    · rw [if_pos h64, if_pos h64]; exact .inr ⟨by decide, by decide, hd⟩
    · rw [if_neg h64, if_neg h64]
      by_cases h8' : (M.pg A).length = 8
      · rw [if_pos h8', if_pos h8']; exact .inr ⟨by decide, by decide, hd⟩
      · rw [if_neg h8', if_neg h8']
        cases hw : M.wk A with
        | true => exact .inr ⟨by simp, by simp, by simp; unfold downB at *; exact hd⟩
        | false =>
          simp only [Bool.false_eq_true, if_false]
          rw [if_pos hl, if_pos hl]
          exact .inl ⟨rfl, rfl, by omega⟩
  · rw [if_pos hr, if_pos hr]
    refine .inr ⟨?_, hr, hd⟩
    unfold readyE
    rw [hd, if_neg (by simp), if_pos ⟨by omega, by omega⟩]
    split <;> decide
theorem erase_torn (M : CM) (hl : M.left = 0) (hp : M.pend = none) (A : Nat) (hA : A < 24) :
    (eraseE M (A : Int) = 9 ∧ eraseM M (A : Int) = { M with pend := some (.erase A) }) ∨
    (¬ eraseE M (A : Int) = 9 ∧ ¬ eraseE M (A : Int) = 0 ∧ downB (eraseM M (A : Int)) = false) := by
  have hd : downB M = false := by unfold downB; rw [hp]; rfl
  unfold eraseE eraseM
  rw [Int.toNat_natCast]
  by_cases hr : readyE M (A : Int) = 0
  · have hr' : ¬ ¬ readyE M (A : Int) = 0 := by simp [hr]
    rw [if_neg hr', if_neg hr']
    cases hw : M.wk A with
    | true => exact .inr ⟨by simp, by simp, by simp; unfold downB at *; exact hd⟩
    | false =>
      simp only [Bool.false_eq_true, if_false]
      rw [if_pos hl, if_pos hl]
      exact .inl ⟨rfl, rfl⟩
  · rw [if_pos hr, if_pos hr]
    refine .inr ⟨?_, hr, hd⟩
    unfold readyE
    rw [hd, if_neg (by simp), if_pos ⟨by omega, by omega⟩]
    split <;> decide
theorem torn_cases {M : CM} (hp : M.pend = none) (A : Nat) (s : ByteArray) (er : Bool) (hA : A < 24) (h8 : (M.pg A).length ≤ 8) :
    (tornE M A s er = 9 ∧ tornM M A s er = { armM M 0 with pend := some (pendOf A s er) } ∧ (er = false → (M.pg A).length < 8)) ∨
    (¬ tornE M A s er = 9 ∧ ¬ tornE M A s er = 0 ∧ downB (tornM M A s er) = false) := by
  unfold tornE tornM pendOf
  cases er with
  | true =>
    simp only [if_true]
    rcases erase_torn (armM M 0) rfl hp A hA with ⟨h1, h2⟩ | h
    · exact .inl ⟨h1, h2, by simp⟩
    · exact .inr h
  | false =>
    simp only [Bool.false_eq_true, if_false]
    rcases write_torn (armM M 0) rfl hp A s hA h8 with ⟨h1, h2, h3⟩ | h
    · exact .inl ⟨h1, h2, fun _ => h3⟩
    · exact .inr h

/-- The chip that fell. -/
def fellM (M : CM) (A : Nat) (s : ByteArray) (er : Bool) : CM := { armM M 0 with pend := some (pendOf A s er) }
theorem fell_read (M : CM) (A : Nat) (s : ByteArray) (er : Bool) (b p : Int) : readR (fellM M A s er) b p = ([], 9) := by
  unfold readR downB fellM; simp
theorem fell_write (M : CM) (A : Nat) (s : ByteArray) (er : Bool) (b : Int) (t : ByteArray) : writeE (fellM M A s er) b t = 9 ∧ writeM (fellM M A s er) b t = fellM M A s er := by
  have hr : readyE (fellM M A s er) b = 9 := by unfold readyE downB fellM; simp
  unfold writeE writeM
  rw [hr, if_pos (by decide), if_pos (by decide)]
  exact ⟨rfl, rfl⟩
/-- It is started anew. -/
def againM (M : CM) (A : Nat) (s : ByteArray) (er : Bool) (how : Int) : CM := restartM (fellM M A s er) how
theorem again_pend (M : CM) (A : Nat) (s : ByteArray) (er : Bool) (how : Int) : (againM M A s er how).pend = none := rfl
theorem again_down (M : CM) (A : Nat) (s : ByteArray) (er : Bool) (how : Int) : downB (againM M A s er how) = false := rfl
theorem again_pg (M : CM) (A : Nat) (s : ByteArray) (er : Bool) (how : Int) : (againM M A s er how).pg = if how = 2 then upd M.pg A (if er then [] else M.pg A ++ [.whole (padD s)]) else if how = 1 then upd M.pg A (if er then List.replicate 8 Pg.torn else M.pg A ++ [.torn]) else M.pg := by
  show (stepped (fellM M A s er) (pendOf A s er) how).pg = _
  unfold stepped
  split
  · cases er <;> rfl
  · split
    · cases er <;> rfl
    · rfl
theorem again_stays {M : CM} (hp : M.pend = none) (A : Nat) (s : ByteArray) (er : Bool) (how : Int) (b p : Nat) (hb : b < 24) (hp8 : p < 8) (hn : ¬ (b = A ∧ (er = true ∨ p = (M.pg A).length))) :
    readR (againM M A s er how) (b : Int) (p : Int) = readR M (b : Int) (p : Int) := by
  refine readR_congr hp (again_pend ..) b p hb hp8 ?_
  rw [again_pg]
  have key : ∀ q : Pg, ¬ (b = A ∧ p = (M.pg A).length) → (upd M.pg A (M.pg A ++ [q]) b)[p]? = (M.pg b)[p]? := by
    intro q hq
    unfold upd
    split
    · rename_i hbA; subst hbA
      by_cases hlt : p < (M.pg b).length
      · rw [List.getElem?_append_left hlt]
      · rw [List.getElem?_eq_none (by simp; omega), List.getElem?_eq_none (by omega)]
    · rfl
  cases er with
  | true =>
    have hbA : ¬ b = A := fun e => hn ⟨e, .inl rfl⟩
    split
    · rw [upd_other _ _ _ hbA]
    · split
      · rw [upd_other _ _ _ hbA]
      · rfl
  | false =>
    have hq : ¬ (b = A ∧ p = (M.pg A).length) := fun e => hn ⟨e.1, .inr e.2⟩
    split
    · exact key _ hq
    · split
      · exact key _ hq
      · rfl
theorem again_half (M : CM) (A : Nat) (s : ByteArray) (hA : A < 24) :
    (((againM M A s true 1).pg A).length = 8 ∧ (readR (againM M A s true 1) (A : Int) ((0 : Nat) : Int)).2 = 4) ∧
    ((M.pg A).length < 8 → ((againM M A s false 1).pg A).length = (M.pg A).length + 1 ∧ (readR (againM M A s false 1) (A : Int) ((M.pg A).length : Int)).2 = 4) := by
  refine ⟨⟨?_, ?_⟩, fun hl => ⟨?_, ?_⟩⟩
  · rw [again_pg]; simp [upd_same]
  · rw [readR_up (again_pend ..) A 0 hA (by omega), again_pg]; simp [upd_same]
  · rw [again_pg]; simp [upd_same]
  · rw [readR_up (again_pend ..) A _ hA hl, again_pg]; simp [upd_same]
theorem again_done (M : CM) (A : Nat) (s : ByteArray) (hA : A < 24) :
    ((againM M A s true 2).pg A).length = 0 ∧
    ((M.pg A).length < 8 → ((againM M A s false 2).pg A).length = (M.pg A).length + 1 ∧ (readR (againM M A s false 2) (A : Int) ((M.pg A).length : Int)).2 = 0) := by
  refine ⟨?_, fun hl => ⟨?_, ?_⟩⟩
  · rw [again_pg]; simp [upd_same]
  · rw [again_pg]; simp [upd_same]
  · rw [readR_up (again_pend ..) A _ hA hl, again_pg]; simp [upd_same]
theorem again_not (M : CM) (A : Nat) (s : ByteArray) (er : Bool) (how : Int) (h1 : ¬ how = 1) (h2 : ¬ how = 2) : ((againM M A s er how).pg A).length = (M.pg A).length := by
  rw [again_pg, if_neg h2, if_neg h1]

def m9 : CM := writeM (armM newM 0) 3 ⟨#[120]⟩
theorem m9_e : writeE (armM newM 0) 3 ⟨#[120]⟩ = 9 := by decide +kernel
theorem m9_d : downB m9 = true := by decide +kernel
theorem write9 (cb : Nat) (w : World) (h : ChipAt w cb (armM newM 0)) :
    Calls Try.prog 31 #[.pointer (some ⟨cb, 0, none⟩), .int .i64 3, .string ⟨#[120]⟩] w fun e w' => e = .returned (errV 9) ∧ ChipAt w' cb m9 ∧ w.grownBy w' (some cb) := by
  refine (write_any cb 3 ⟨#[120]⟩ (armM newM 0) w h (by decide) (by decide)).mono ?_
  rintro e w' ⟨rfl, hc, hg⟩
  exact ⟨by rw [m9_e], hc, hg⟩
theorem down9 (cb : Nat) (w : World) (h : ChipAt w cb m9) :
    Calls Try.prog 48 #[.pointer (some ⟨cb, 0, none⟩)] w fun e w' => e = .returned (.bool true) ∧ w' = w := by
  refine (down_any cb m9 w h).mono ?_
  rintro e w' ⟨rfl, rfl⟩
  exact ⟨by rw [m9_d], rfl⟩

set_option maxRecDepth 100000 in
set_option maxHeartbeats 4000000 in
theorem topTorn_dark (ao : Option Addr) (cap : Nat) (acs : List ActE) (e : ActE) (how : Int) (w : World) (hl : acs.length ≤ 9223372036854775807) (has : ActsAt w ao acs) (hli : lightActs acs 80 = false) :
    Calls Try.prog 7 #[.slice ao acs.length cap, .agg (actV e), .int .i64 how] w fun r w' => r = .returned (.bool true) ∧ Ext w w' := by
  have hx0 : Ext w (w.alloc (.cells (actV e) 49)) := (Ext.refl w).alloc _
  unfold actV at *
  go_enter Try.func7, Try.ntmps7
  go_wp2_with (first
    | (go_at_call 29; refine (new_any _).mono ?_; rintro r w1 ⟨rfl, hc1, hx1, hs1⟩; simp only [World.size_alloc] at hc1)
    | (go_at_call 37; refine (arm_any _ 0 _ _ hc1).mono ?_; rintro r w2 ⟨rfl, hc2, hg2⟩; have hx2 := (hx0.trans hx1).grown2 hg2 (Nat.le_succ _))
    | (go_at_call 31; refine (write9 _ _ hc2).mono ?_; rintro r w3 ⟨rfl, hc3, hg3⟩; have hx3 := hx2.grown2 hg3 (Nat.le_succ _))
    | (go_at_call 47; refine (number_any _ _).mono ?_; rintro r wy ⟨rfl, hwy⟩; subst wy)
    | (go_at_call 48; refine (down9 _ _ hc3).mono ?_; rintro r wy ⟨rfl, hwy⟩; subst wy)
    | (go_at_call 28; refine (lightActs_any ao cap acs 80 _ (by omega) hl (has.ext hx3)).mono ?_; rw [hli]; rintro r w4 ⟨rfl, rfl⟩))
  go_ret
  exact ⟨rfl, hx3⟩

set_option maxRecDepth 100000 in
set_option maxHeartbeats 8000000 in
theorem topTorn_dark2 (ao : Option Addr) (cap : Nat) (acs : List ActE) (e : ActE) (how : Int) (w : World) (hl : acs.length ≤ 9223372036854775807) (has : ActsAt w ao acs) (hok : ActOk w e) (hli : lightActs acs 80 = true) (hl1 : lightActs [e] 1 = false ∨ (lightActs [e] 1 = true ∧ (e.a < 0 ∨ 24 ≤ e.a))) :
    Calls Try.prog 7 #[.slice ao acs.length cap, .agg (actV e), .int .i64 how] w fun r w' => r = .returned (.bool true) ∧ Ext w w' := by
  have hx0 : Ext w (w.alloc (.cells (actV e) 49)) := (Ext.refl w).alloc _
  have hA0 : Blk (w.alloc (.cells (actV e) 49)) w.heap.size (actV e) 49 := Blk.new _ _ _
  generalize hav : actV e = av at hx0 hA0
  unfold actV at hav
  subst hav
  have fin : ∀ (x : Bool), lightActs [e] 1 = x → (x = false ∨ (x = true ∧ (e.a < 0 ∨ 24 ≤ e.a))) → Calls Try.prog 7 #[.slice ao acs.length cap, .agg #[.string e.kind, .string e.s, .int .i64 e.a, .int .i64 e.b, .slice e.ao e.es.length e.cap], .int .i64 how] w fun r w' => r = .returned (.bool true) ∧ Ext w w' := by
    intro x hx hcase
    rcases hcase with rfl | ⟨rfl, hcase⟩
    · skip
      go_enter Try.func7, Try.ntmps7
      go_wp2_with (first
        | (go_at_call 29; refine (new_any _).mono ?_; rintro r w1 ⟨rfl, hc1, hx1, hs1⟩; simp only [World.size_alloc] at hc1)
        | (go_at_call 37; refine (arm_any _ 0 _ _ hc1).mono ?_; rintro r w2 ⟨rfl, hc2, hg2⟩; have hx2 := (hx0.trans hx1).grown2 hg2 (Nat.le_succ _))
        | (go_at_call 31; refine (write9 _ _ hc2).mono ?_; rintro r w3 ⟨rfl, hc3, hg3⟩; have hx3 := hx2.grown2 hg3 (Nat.le_succ _); obtain ⟨a0, a1, a2, a3, a4⟩ := act_cells (((hA0.ext hx1).grown hg2 (by omega)).grown hg3 (by omega)); have hbl := lt_of_cell2 a0)
        | (go_at_call 47; refine (number_any _ _).mono ?_; rintro r wy ⟨rfl, hwy⟩; subst wy)
        | (go_at_call 48; refine (down9 _ _ hc3).mono ?_; rintro r wy ⟨rfl, hwy⟩; subst wy)
        | (go_at_call_of 28 (Value.int .i64 80); refine (lightActs_any ao cap acs 80 _ (by omega) hl (has.ext hx3)).mono ?_; rw [hli]; rintro r w4 ⟨rfl, rfl⟩)
        | (go_at_call_of 28 (Value.int .i64 1); refine (lightActs_any _ 1 [e] 1 _ (by omega) (by simp) (acts_one (Blk.new _ _ _) (hok.ext (hx3.alloc _)))).mono ?_; rw [hx]; rintro r w5 ⟨rfl, rfl⟩))
      go_ret
      exact ⟨rfl, hx3.alloc _⟩
    · rcases hcase with hneg | hbig
      · skip
        go_enter Try.func7, Try.ntmps7
        go_wp2_with (first
          | (go_at_call 29; refine (new_any _).mono ?_; rintro r w1 ⟨rfl, hc1, hx1, hs1⟩; simp only [World.size_alloc] at hc1)
          | (go_at_call 37; refine (arm_any _ 0 _ _ hc1).mono ?_; rintro r w2 ⟨rfl, hc2, hg2⟩; have hx2 := (hx0.trans hx1).grown2 hg2 (Nat.le_succ _))
          | (go_at_call 31; refine (write9 _ _ hc2).mono ?_; rintro r w3 ⟨rfl, hc3, hg3⟩; have hx3 := hx2.grown2 hg3 (Nat.le_succ _); obtain ⟨a0, a1, a2, a3, a4⟩ := act_cells (((hA0.ext hx1).grown hg2 (by omega)).grown hg3 (by omega)); have hbl := lt_of_cell2 a0)
          | (go_at_call 47; refine (number_any _ _).mono ?_; rintro r wy ⟨rfl, hwy⟩; subst wy)
          | (go_at_call 48; refine (down9 _ _ hc3).mono ?_; rintro r wy ⟨rfl, hwy⟩; subst wy)
          | (go_at_call_of 28 (Value.int .i64 80); refine (lightActs_any ao cap acs 80 _ (by omega) hl (has.ext hx3)).mono ?_; rw [hli]; rintro r w4 ⟨rfl, rfl⟩)
          | (go_at_call_of 28 (Value.int .i64 1); refine (lightActs_any _ 1 [e] 1 _ (by omega) (by simp) (acts_one (Blk.new _ _ _) (hok.ext (hx3.alloc _)))).mono ?_; rw [hx]; rintro r w5 ⟨rfl, rfl⟩))
        go_ret
        exact ⟨rfl, hx3.alloc _⟩
      · have hnn : ¬ e.a < 0 := by omega
        go_enter Try.func7, Try.ntmps7
        go_wp2_with (first
          | (go_at_call 29; refine (new_any _).mono ?_; rintro r w1 ⟨rfl, hc1, hx1, hs1⟩; simp only [World.size_alloc] at hc1)
          | (go_at_call 37; refine (arm_any _ 0 _ _ hc1).mono ?_; rintro r w2 ⟨rfl, hc2, hg2⟩; have hx2 := (hx0.trans hx1).grown2 hg2 (Nat.le_succ _))
          | (go_at_call 31; refine (write9 _ _ hc2).mono ?_; rintro r w3 ⟨rfl, hc3, hg3⟩; have hx3 := hx2.grown2 hg3 (Nat.le_succ _); obtain ⟨a0, a1, a2, a3, a4⟩ := act_cells (((hA0.ext hx1).grown hg2 (by omega)).grown hg3 (by omega)); have hbl := lt_of_cell2 a0)
          | (go_at_call 47; refine (number_any _ _).mono ?_; rintro r wy ⟨rfl, hwy⟩; subst wy)
          | (go_at_call 48; refine (down9 _ _ hc3).mono ?_; rintro r wy ⟨rfl, hwy⟩; subst wy)
          | (go_at_call_of 28 (Value.int .i64 80); refine (lightActs_any ao cap acs 80 _ (by omega) hl (has.ext hx3)).mono ?_; rw [hli]; rintro r w4 ⟨rfl, rfl⟩)
          | (go_at_call_of 28 (Value.int .i64 1); refine (lightActs_any _ 1 [e] 1 _ (by omega) (by simp) (acts_one (Blk.new _ _ _) (hok.ext (hx3.alloc _)))).mono ?_; rw [hx]; rintro r w5 ⟨rfl, rfl⟩))
        go_ret
        exact ⟨rfl, hx3.alloc _⟩
  exact fin _ rfl hl1

end Go.Proofs.Ytpldeejagomfjaa
