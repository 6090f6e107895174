/- StoB. -/
import Derived.Test.YtkibgflbidkalaaGreatDoorStoAJ

/- A store's hand: putAll. -/
namespace Go.Proofs.YtkibgflbidkalaaGreatDoor
open Go.RowKit Go.WideShapes

theorem Kp.cell {w w' : World} {S : List Nat} (h : Kp w w' S) {b o : Nat} {v : Value} (hb : b ∉ S) (hc : w.cell? ⟨b, o, none⟩ = some v) : w'.cell? ⟨b, o, none⟩ = some v := by
  have hlt : b < w.heap.size := by
    rcases Nat.lt_or_ge b w.heap.size with h' | h'
    · exact h'
    · simp [World.cell?, Array.getElem?_eq_none h'] at hc
  have := h.blk b hlt hb
  simp only [World.cell?, this] at hc ⊢
  exact hc
theorem EntsAt.kp {w w' : World} {ao : Option Addr} {es : List Ent} {S : List Nat} (h : EntsAt w ao es) (hK : Kp w w' S) (ho : ∀ a, ao = some a → a.block ∉ S) : EntsAt w' ao es := fun hne => by
  obtain ⟨b, off, rfl, hc⟩ := h hne
  have hb := ho _ rfl
  exact ⟨b, off, rfl, fun i e he => ⟨hK.cell hb (hc i e he).1, hK.cell hb (hc i e he).2.1, hK.cell hb (hc i e he).2.2⟩⟩
theorem NumsAt.kp {w w' : World} {ao : Option Addr} {xs : List Int} {S : List Nat} (h : NumsAt w ao xs) (hK : Kp w w' S) (ho : ∀ a, ao = some a → a.block ∉ S) : NumsAt w' ao xs := fun hne => by
  obtain ⟨b, off, e, hc⟩ := h hne
  have hb := ho _ e
  exact ⟨b, off, e, fun i x hx => hK.cell hb (hc i x hx)⟩
theorem GlobT.kp {w w' : World} {S : List Nat} (h : GlobT w) (hK : Kp w w' S) (hn : 1 ∉ S) : GlobT w' := by
  obtain ⟨f, hf⟩ := h
  exact ⟨f, fun i hi => ⟨hK.cell hn (hf i hi).1, (hf i hi).2⟩⟩
theorem Kp.grown {w w' : World} {cb : Nat} (h : w.grownBy w' (some cb)) : Kp w w' [cb] :=
  ⟨h.os, h.tape, h.output, h.size, fun k hk hn => h.block k hk (fun e => hn (by simp at e; simp [e]))⟩
theorem Kp.new {w w1 w2 : World} {S T : List Nat} (h : Kp w w1 S) (k : Kp w1 w2 T) (ht : ∀ x ∈ T, x ∈ S ∨ w.heap.size ≤ x) : Kp w w2 S :=
  ⟨k.os.trans h.os, k.tape.trans h.tape, k.output.trans h.output, Nat.le_trans h.size k.size, fun i hi hs => (k.blk i (Nat.lt_of_lt_of_le hi h.size) (fun hh => by
    rcases ht i hh with h' | h'
    · exact hs h'
    · omega)).trans (h.blk i hi hs)⟩
theorem Tow.kp {w w' : World} {lb : Nat} {ns : List Nd} {S : List Nat} (h : Tow w lb ns) (hK : Kp w w' S) (hd : ∀ x ∈ lb :: ns.map Nd.b, x ∉ S) : Tow w' lb ns := by
  obtain ⟨g, L, hC, hM⟩ := h
  exact ⟨g, L, hC, hK.Blk hM.head (hd lb (by simp)), fun n hn => hK.Blk (hM.node n hn) (hd n.b (List.mem_cons_of_mem _ (List.mem_map_of_mem hn)))⟩
theorem Tow.lt {w : World} {lb : Nat} {ns : List Nd} (h : Tow w lb ns) : ∀ x ∈ lb :: ns.map Nd.b, x < w.heap.size := by
  obtain ⟨g, L, hC, hM⟩ := h
  intro x hx
  rcases List.mem_cons.1 hx with rfl | hx
  · exact hM.head.lt
  · obtain ⟨n, hn, rfl⟩ := List.mem_map.1 hx
    exact (hM.node n hn).lt
theorem ownsRow_slice {w : World} {base : Nat} {e : TypeId} {size : Nat} {v : Value} {n : Nat} {xs : List Value} (h : w.ownsRow base e size v n xs) : ∃ ao cap, v = .slice ao n cap := by
  rcases h.2 with ⟨rfl, rfl⟩ | ⟨g, cap, cur, rfl, _⟩
  · exact ⟨_, _, rfl⟩
  · exact ⟨_, _, rfl⟩
structure HandP (w w' : World) (lb : Nat) (ns : List Nd) (es : List Ent) : Prop where
  ex : ∃ ms, Tow w' lb ms ∧ ms.map Nd.e = putsE (ns.map Nd.e) es ∧ ms.length ≤ ns.length + es.length ∧ Kp w w' (lb :: ns.map Nd.b) ∧ ∀ n ∈ ms, n.b ∈ ns.map Nd.b ∨ w.heap.size ≤ n.b
set_option maxRecDepth 20000 in
set_option maxHeartbeats 4000000 in
theorem putAll_any (lb : Nat) (ns : List Nd) (ao : Option Addr) (cap : Nat) (es : List Ent) (w : World) (h : Tow w lb ns) (hsm : ns.length + es.length ≤ 900) (hg : GlobT w) (hgn : 1 ∉ lb :: ns.map Nd.b) (hes : EntsAt w ao es) (hno : ∀ a, ao = some a → a.block ∉ lb :: ns.map Nd.b) :
    Calls Tryz.prog 52 #[.pointer (some ⟨lb, 0, none⟩), .slice ao es.length cap] w fun e w' => e = .returned (.tuple #[]) ∧ HandP w w' lb ns es := by
  have HS : Hid (∀ ms : List Nd, (∀ n ∈ ms, n.b ∈ ns.map Nd.b ∨ w.heap.size ≤ n.b) → ∀ x ∈ lb :: ms.map Nd.b, x ∈ lb :: ns.map Nd.b ∨ w.heap.size ≤ x) := fun ms hm x hx => by
    rcases List.mem_cons.1 hx with rfl | hx
    · exact .inl (by simp)
    · obtain ⟨n, hn, rfl⟩ := List.mem_map.1 hx
      rcases hm n hn with h | h
      · exact .inl (List.mem_cons_of_mem _ h)
      · exact .inr h
  have HG : Hid (GlobT w) := hg
  go_enter Tryz.func52, Tryz.ntmps52
  go_wp2
  go_loopw [5, 8] (fun _ i wr => ∃ (k : Nat) (ms : List Nd), k ≤ es.length ∧ i = .int .i64 k ∧ Tow wr lb ms ∧ ms.map Nd.e = putsE (ns.map Nd.e) (es.take k) ∧ ms.length ≤ ns.length + k ∧ Kp w wr (lb :: ns.map Nd.b) ∧ ∀ n ∈ ms, n.b ∈ ns.map Nd.b ∨ w.heap.size ≤ n.b) (fun _ i _ => es.length - (intOf i).toNat)
  case atStart => exact ⟨0, ns, Nat.zero_le _, rfl, h, by simp [putsE], by omega, Kp.refl _ _, fun n hn => .inl (List.mem_map_of_mem hn)⟩
  case round =>
    obtain ⟨k, ms, hk, rfl, hT, hmE, hml, hK, hnew⟩ := hrel
    by_cases hlt : k < es.length
    · have hes' := hes.kp hK hno
      obtain ⟨b, off, ek, ev, eg, rfl, he, h1, h2, h3⟩ := hes'.get hlt
      have HE : Hid (putsE (ns.map Nd.e) (es.take (k + 1)) = putE (putsE (ns.map Nd.e) (es.take k)) ⟨ek, ev, eg⟩) := by
        rw [Hid, take_snocE he]; simp [putsE]
      have hG := HG.out.kp hK hgn
      have hx1 : Ext wr (wr.alloc (.cells #[.string ek, .string ev, .bool eg] 56)) := (Ext.refl wr).alloc _
      have b1 : Blk (wr.alloc (.cells #[.string ek, .string ev, .bool eg] 56)) wr.heap.size #[.string ek, .string ev, .bool eg] 56 := Blk.new _ _ _
      have hT1 := hT.ext hx1
      have hG1 := hG.ext hx1
      have H1 : Hid (∀ q, ((wr.alloc (.cells #[.string ek, .string ev, .bool eg] 56)).drewN q).cell? ⟨wr.heap.size, 0, none⟩ = some (.string ek) ∧ ((wr.alloc (.cells #[.string ek, .string ev, .bool eg] 56)).drewN q).cell? ⟨wr.heap.size, 1, none⟩ = some (.string ev) ∧ ((wr.alloc (.cells #[.string ek, .string ev, .bool eg] 56)).drewN q).cell? ⟨wr.heap.size, 2, none⟩ = some (.bool eg)) := fun q => ⟨(b1.drewN q).cell 0, (b1.drewN q).cell 1, (b1.drewN q).cell 2⟩
      have CM : Hid (∀ q, Calls Tryz.prog 86 #[.pointer (some ⟨lb, 0, none⟩)] ((wr.alloc (.cells #[.string ek, .string ev, .bool eg] 56)).drewN q) fun e w' => e = .returned (.int .i64 (ms.length : Int)) ∧ w' = (wr.alloc (.cells #[.string ek, .string ev, .bool eg] 56)).drewN q) := fun q => many_any lb ms _ (hT1.ext ((Ext.refl _).drewN q))
      have CZ : Hid (∀ q, Calls Tryz.prog 85 #[.int .u64 (IntKind.u64.wrap (IntKind.i64.wrap ((ms.length : Int) + 1)))] ((wr.alloc (.cells #[.string ek, .string ev, .bool eg] 56)).drewN q) fun e w' => (∃ n : Nat, n < 256 ∧ e = .returned (.int .i64 (n : Int))) ∧ w' = (wr.alloc (.cells #[.string ek, .string ev, .bool eg] 56)).drewN q) := fun q => by
        have := tz_any (ms.length + 1) ((wr.alloc (.cells #[.string ek, .string ev, .bool eg] 56)).drewN q) (by omega) (by omega) (hG1.ext ((Ext.refl _).drewN q))
        rw [show ((ms.length + 1 : Nat) : Int) = IntKind.u64.wrap (IntKind.i64.wrap ((ms.length : Int) + 1)) by rw [IntKind.wrap_i64, IntKind.wrap_u64]; omega] at this
        exact this
      have CP : Hid (∀ q hi, Calls Tryz.prog 84 #[.pointer (some ⟨lb, 0, none⟩), .agg #[.string ek, .string ev, .bool eg], .int .i64 hi] ((wr.alloc (.cells #[.string ek, .string ev, .bool eg] 56)).drewN q) fun e w' => e = .returned (.tuple #[]) ∧ PutP ((wr.alloc (.cells #[.string ek, .string ev, .bool eg] 56)).drewN q) w' lb ms ⟨ek, ev, eg⟩) := fun q hi => by
        obtain ⟨g, L, hC, hM⟩ := hT1.ext ((Ext.refl _).drewN q)
        exact put_any lb ms L ek ev eg hi _ hC g hM (by omega)
      have HNB : Hid (wr.heap.size ∉ lb :: ms.map Nd.b) := fun hh => by have := hT.lt _ hh; omega
      have hmi : (ms.length : Int) ≤ 900 := by omega
      have HM : Hid (ms.map Nd.e = putsE (ns.map Nd.e) (es.take k)) := hmE
      have HN : Hid (∀ n ∈ ms, n.b ∈ ns.map Nd.b ∨ w.heap.size ≤ n.b) := hnew
      have HK : Hid (Kp w wr (lb :: ns.map Nd.b)) := hK
      have HL : Hid (ms.length ≤ ns.length + k) := hml
      clear hes' he hG hG1 hT1 hx1 b1 hmE hnew hK hT hml
      go_wp2_with fail
      go_region_held3 (fun w' => w'.cell? ⟨wr.heap.size, 0, none⟩ = some (.string ek) ∧ w'.cell? ⟨wr.heap.size, 1, none⟩ = some (.string ev) ∧ w'.cell? ⟨wr.heap.size, 2, none⟩ = some (.bool eg))
        (first | (go_keep; done) | exact ⟨hKp.cell HNB.out (H1.out _).1, hKp.cell HNB.out (H1.out _).2.1, hKp.cell HNB.out (H1.out _).2.2⟩)
        (first
          | (go_at_call 86; refine (CM.out _).mono ?_; rintro e w2 ⟨rfl, rfl⟩)
          | (go_at_call 85; refine (CZ.out _).mono ?_; rintro e w2 ⟨⟨n, hn, rfl⟩, rfl⟩)
          | (go_at_call 84; refine (CP.out _ _).mono ?_; rintro e w3 ⟨rfl, ⟨ms2, M2, g2, hC2, hM2, hme, hKp, hf⟩⟩))
      go_wp2
      go_roundw
      case rel =>
        have hK2 : Kp wr w3 (lb :: ms.map Nd.b) := (Kp.ofExt (((Ext.refl wr).alloc _).drewN _) _).trans hKp
        have hKK := HK.out
        refine ⟨k + 1, ms2, by omega, by go_num, ⟨g2, M2, hC2, hM2⟩, ?_, ?_, hKK.new hK2 (HS.out ms HN.out), fun n hn => ?_⟩
        · rw [hme, HE.out, HM.out]
        · have h9 := congrArg List.length hme
          have := putE_len (ms.map Nd.e) ⟨ek, ev, eg⟩
          have := HL.out
          simp at h9 this; simp at *; omega
        · rcases hf n hn with h' | h'
          · obtain ⟨n', hn', e'⟩ := List.mem_map.1 h'
            rw [← e']; exact HN.out n' hn'
          · have := hKK.size
            simp at h'; exact .inr (by omega)
      case measure => simp [intOf]; omega
    · have HE : Hid (putsE (ns.map Nd.e) (es.take k) = putsE (ns.map Nd.e) es) := by rw [Hid, List.take_of_length_le (by omega)]
      go_wp2
      go_end0
      exact ⟨rfl, ms, hT, by rw [hmE, HE.out], by omega, hK, hnew⟩
end Go.Proofs.YtkibgflbidkalaaGreatDoor
