/- BatD. -/
import Derived.Test.YthndopokabceiaaDoorBatCJ
import Derived.Test.YthndopokabceiaaDoorEntAppJ

/- Changes as a text: Parse. -/
namespace Go.Proofs.YthndopokabceiaaDoor
open Go.RowKit Go.WideShapes

theorem Lst.upon {W0 w w' : World} {v : Value} {es : List Ent} (h : Lst W0 w v es) (hx : Ext w w') : Lst W0 w' v es := by
  refine ⟨⟨h.own.1, ?_⟩, h.ext.trans hx⟩
  rcases h.own.2 with hn | ⟨g, cap, cur, rfl, hb, hgg, rest⟩
  · exact .inl hn
  · exact .inr ⟨g, cap, cur, rfl, hb, by rw [hx.below.block g (lt_of_block hgg)]; exact hgg, rest⟩
/-- What Parse leaves: changes, or none and the error of a text. -/
structure ParE (w w' : World) (e : Ending) (r : Option (List Ent)) : Prop where
  ex : ∃ v, e = .returned (.tuple #[v, errV (match r with | none => 4 | some _ => 0)]) ∧ Lst w w' v (r.getD [])
theorem changeE_le (s : ByteArray) : (changeE s).key.size ≤ s.size ∧ (changeE s).val.size ≤ s.size := cutE_le s
set_option maxRecDepth 20000 in
set_option maxHeartbeats 4000000 in
theorem bparse_any (s : ByteArray) (w : World) (hs : s.size ≤ 100000) (hg : Tryd.Glob w) :
    Calls Tryd.prog 25 #[.string s] w fun e w' => ParE w w' e (parseE s) := by
  obtain ⟨N, hN⟩ : ∃ N, N = min 5 (s.size + 1) := ⟨_, rfl⟩
  have HSP : Hid (Calls Tryd.prog 59 #[.string s, .string ⟨#[32]⟩, .int .i64 5] w fun e w' => e = .returned (.slice (some ⟨w.heap.size, 0, none⟩) (Lib.splitB ⟨#[32]⟩ 0 (N - 1) s).length N) ∧ w.alloc (.cells (Lib.cellsOf (Lib.splitB ⟨#[32]⟩ 0 (N - 1) s) N) 9) = w') := by
    obtain ⟨m, hm⟩ := hg
    have := Tryd.strings_SplitN s ⟨#[32]⟩ 5 m w (by omega) hm (by decide) (by omega) (by omega)
    rw [← hN] at this
    exact this.mono fun _ _ h => ⟨h.1, h.2.symm⟩
  have HPW := parse_words s (N - 1) (by rw [hN])
  have HSZ : Hid (∀ x ∈ Lib.splitB ⟨#[32]⟩ 0 (N - 1) s, x.size ≤ 100000) := fun x hx => by have := splitB_size s _ x hx; omega
  have HWN : Hid ((Lib.splitB ⟨#[32]⟩ 0 (N - 1) s).length ≤ N) := by have := Lib.splitB_length_le ⟨#[32]⟩ 0 (N - 1) s; rw [Hid]; omega
  generalize Lib.splitB ⟨#[32]⟩ 0 (N - 1) s = ws at *
  have hwl : ws.length ≤ 5 := by have := HWN.out; omega
  generalize parseE s = res at *
  have HP1 : Hid ((textT (ws.map changeE)).2 = 0 → res = some (ws.map changeE)) := HPW.1
  have HP2 : Hid (¬ (textT (ws.map changeE)).2 = 0 → res = none) := HPW.2
  clear HPW
  have HB1 : Blk (w.alloc (.cells (Lib.cellsOf ws N) 9)) w.heap.size (Lib.cellsOf ws N) 9 := Blk.new _ _ _
  have HX1 : Ext w (w.alloc (.cells (Lib.cellsOf ws N) 9)) := (Ext.refl _).alloc _
  have HG1 : Hid (∀ W, Ext (w.alloc (.cells (Lib.cellsOf ws N) 9)) W → Tryd.Glob W) := fun W hx => glob_ext hg (HX1.trans hx)
  generalize hw1 : w.alloc (.cells (Lib.cellsOf ws N) 9) = w1 at *
  clear hw1
  have HCL : Hid (∀ (k : Nat) x W, ws[k]? = some x → Ext w1 W → W.cell? ⟨w.heap.size, k, none⟩ = some (.string x)) := fun k x W hk hx => by
    rw [(HB1.ext hx).cell k]
    unfold Lib.cellsOf
    rw [List.getElem?_toArray, List.getElem?_append_left (by have := (List.getElem?_eq_some_iff.1 hk).1; simpa using this), List.getElem?_map, hk]
    rfl
  clear HB1 hg
  generalize w.heap.size = wb at *
  go_enter Tryd.func25, Tryd.ntmps25
  go_wp2_with (go_at_call 59; refine HSP.out.mono ?_; rintro e w2 ⟨rfl, rfl⟩)
  clear HSP
  go_loopw [4, 12] (fun v i wr => ∃ (k : Nat), k ≤ ws.length ∧ i = .int .i64 k ∧ Lst w1 wr v ((ws.take k).map changeE)) (fun _ i _ => ws.length - (intOf i).toNat)
  case atStart => exact ⟨0, Nat.zero_le _, rfl, Lst.nil (Ext.refl _)⟩
  case round =>
    obtain ⟨k, hk, rfl, hL⟩ := hrel
    by_cases hlt : k < ws.length
    · obtain ⟨x, hx⟩ : ∃ x, ws[k]? = some x := ⟨_, List.getElem?_eq_getElem hlt⟩
      have g1 := HCL.out k x _ hx hL.ext
      have HCH : Hid (Calls Tryd.prog 60 #[.string x] wr fun e w' => e = .returned (entV (changeE x)) ∧ Ext wr w') := change_any x wr (by have := HSZ.out x (List.mem_of_getElem? hx); omega) (HG1.out _ hL.ext)
      have HST : Hid ((ws.take (k + 1)).map changeE = (ws.take k).map changeE ++ [changeE x]) := by
        rw [Hid, List.take_add_one, hx]; simp
      have HLN : Hid (((ws.take k).map changeE).length ≤ 100000) := by rw [Hid]; simp; omega
      have HLX : Hid (∀ W, Ext wr W → Lst w1 W _ ((ws.take k).map changeE)) := fun W hxx => hL.upon hxx
      clear hx hL
      generalize (ws.take k).map changeE = done at *
      generalize changeE x = ce at *
      obtain ⟨ek, ev, eg⟩ := ce
      simp only [entV] at HCH
      go_wp2_with (first
        | (go_at_call 60; refine HCH.out.mono ?_; rintro e w2 ⟨rfl, hx2⟩)
        | (at_builtin; refine wpList_app_ent rfl _ _ rfl w1 _ done rfl ?c1 _ ek ev eg rfl ?c2 ?c3 ?_))
      case c1 => exact (HLX.out _ hx2).alloc _
      case c2 => exact Blk.new' _ _ _ (by first | rfl | simp)
      case c3 => exact HLN.out
      intro v2 w3 hL2
      go_wp2
      go_roundw
      case rel => exact ⟨k + 1, by omega, by go_num, by rw [HST.out]; exact hL2⟩
      case measure => simp [intOf]; omega
    · rw [List.take_of_length_le (by omega)] at hL
      obtain ⟨ao, cap, rfl, hE⟩ := hL.at
      have HTX : Hid (Calls Tryd.prog 23 #[.slice ao (ws.map changeE).length cap] wr (TextEnd wr (textT (ws.map changeE)))) := text_any ao cap (ws.map changeE) wr (by simp; omega) hE (fun e he => by
        obtain ⟨x, hx, rfl⟩ := List.mem_map.1 he
        have h1 := HSZ.out x hx
        have h2 := changeE_le x
        omega)
      have hll : (ws.map changeE).length ≤ 5 := by simp; omega
      have HLX : Hid (∀ W, Ext wr W → Lst w W (.slice ao (ws.map changeE).length cap) (ws.map changeE)) := fun W hxx => (hL.upon hxx).back HX1
      clear hE hL HCL HSZ
      generalize ws.map changeE = done at *
      generalize textT done = tt at *
      obtain ⟨tx, f⟩ := tt
      have HT2 : Hid (Calls Tryd.prog 23 #[.slice ao done.length cap] wr fun e w' => e = .returned (.tuple #[.string tx, errV f]) ∧ Ext wr w') := HTX.out
      clear HTX
      by_cases hf : f = 0
      · subst hf
        have hr := HP1.out rfl
        subst hr
        go_wp2_with (go_at_call 23; refine HT2.out.mono ?_; rintro e w2 ⟨rfl, hx2⟩; have he0 : errV (0 : Int) = .nilIface := rfl)
        go_ret2
        exact ⟨_, rfl, HLX.out _ hx2⟩
      · have hr := HP2.out hf
        subst hr
        have he1 : errV f = .iface 82 (.int .i64 f) := by unfold errV; rw [if_neg hf]
        rw [he1] at HT2
        go_wp2_with (go_at_call 23; refine HT2.out.mono ?_; rintro e w2 ⟨rfl, hx2⟩)
        go_ret2
        exact ⟨_, rfl, Lst.nil (HLX.out _ hx2).ext⟩
end Go.Proofs.YthndopokabceiaaDoor
