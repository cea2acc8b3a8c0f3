/-
  clock: the landed Next: a range over the turns that asks of each frame whether it is told.
-/
import Derived.Test.YtndddfkebbeemaaCkTu
namespace Go.Proofs.Ytndddfkebbeemaa
open Go.RowKit Go.Shelf Go
attribute [local go_sem] Oper.semAt_some

set_option maxRecDepth 100000 in
set_option maxHeartbeats 4000000 in
theorem next_none_in (q : Nat) (hq : 12 ≤ q) {X : Thg} {w : World} {d : Option Nat} {m : Bool} (hlt : ∀ k, X.has k → k < w.heap.size)
    (hA : ∀ W, (∀ k, X.has k → W.heap[k]? = w.heap[k]?) → CkMay W d m []) :
    CallsIn Fence.wide q Try.prog 17 #[.pointer (d.map fun d => ⟨d, 0, none⟩)] w fun e w' => e = .returned (.tuple #[.int .i64 0, .bool false]) ∧ Below w.heap.size w w' := by
  have h1 : 1 ≤ q := by omega
  obtain ⟨D, hD⟩ : ∃ D, Option.map (fun d => (⟨d, 0, none⟩ : Addr)) d = D := ⟨_, rfl⟩
  obtain ⟨W3, hW3⟩ : ∃ W3, W3 = ((w.alloc (.cells #[.pointer D] 24)).alloc (.cells #[.int .i64 0] 3)).alloc (.cells #[.bool false] 4) := ⟨_, rfl⟩
  have hb3 : Below w.heap.size w W3 := by rw [hW3]; exact (((Below.refl _ _).alloc (Nat.le_refl _) _).alloc (by simp) _).alloc (by simp; omega) _
  have hs3 : W3.heap.size = w.heap.size + 3 := by rw [hW3]; simp
  have k1 : W3.cell? ⟨w.heap.size, 0, none⟩ = some (.pointer D) := by rw [hW3]; simp [go_sem]
  have HK1 := Lib.hid k1
  have HK2 := Lib.hid (show W3.cell? ⟨w.heap.size + 1, 0, none⟩ = some (.int .i64 0) by rw [hW3]; simp [go_sem])
  have HK3 := Lib.hid (show W3.cell? ⟨w.heap.size + 1 + 1, 0, none⟩ = some (.bool false) by rw [hW3]; simp [go_sem])
  obtain ⟨WS, hWS⟩ : ∃ WS, WS = W3.alloc (.cells #[.pointer D] 24) := ⟨_, rfl⟩
  have hbS : Below W3.heap.size W3 WS := by rw [hWS]; exact (Below.refl _ _).alloc (Nat.le_refl _) _
  have hsS : WS.heap.size = w.heap.size + 4 := by rw [hWS]; simp; omega
  have hbW : Below w.heap.size w WS := hb3.trans (hbS.mono hb3.size)
  have HBW := Lib.hid hbW
  have HTEL := Lib.hid (turns_tells (w := WS) (b1 := W3.heap.size) (d := d) (m := m) (own := fun k => X.has k ∨ k = W3.heap.size) (by rw [hWS, hD]; simp [go_sem])
    (fun V hV => hA V (fun k hk => (hV k (.inl hk)).trans (hbW.block k (hlt k hk)))) (.inr rfl) (fun k hk => by
      rcases hk with hk | rfl
      · have := hlt k hk; omega
      · omega))
  have HOW := Lib.hid (show ∀ k, (X.has k ∨ k = W3.heap.size) → k < WS.heap.size from fun k hk => by
    rcases hk with hk | rfl
    · have := hlt k hk; omega
    · omega)
  have HTU := Lib.hid (turns_ck W3 D)
  have HENT := Lib.hid call_turns
  rw [hD]
  clear hb3 hbS hbW hA hlt k1
  refine callsIn_of_wp_marks Try.func17 rfl trivial ?_ rfl
  simp only [Try.ntmps17, List.size_toArray, List.length_cons, List.length_nil, Nat.reduceAdd, Nat.reduceSub, Array.replicate_succ, Array.replicate_zero, List.push_toArray, List.append_toArray, List.nil_append, List.cons_append]
  gi_wp2_with (fail)
  rw [← hW3]
  refine ⟨trivial, (callsIn_wide.2 HTU.out).mono ?_⟩
  rintro e w' ⟨rfl, rfl⟩
  rw [← hWS]
  have hbS : Below W3.heap.size W3 WS := by rw [hWS]; exact (Below.refl _ _).alloc (Nat.le_refl _) _
  have HS2 := Lib.hid ((hbS.cell (p := ⟨w.heap.size + 1, 0, none⟩) (by show w.heap.size + 1 < _; omega)).trans HK2.out)
  have HS3 := Lib.hid ((hbS.cell (p := ⟨w.heap.size + 1 + 1, 0, none⟩) (by show w.heap.size + 1 + 1 < _; omega)).trans HK3.out)
  have HFR := Lib.hid (show ∀ i, WS.frozen? ⟨w.heap.size + 1, i, none⟩ = false ∧ WS.frozen? ⟨w.heap.size + 1 + 1, i, none⟩ = false from fun i => by
    rw [hbS.frozen (p := ⟨w.heap.size + 1, i, none⟩) (by show w.heap.size + 1 < _; omega), hbS.frozen (p := ⟨w.heap.size + 1 + 1, i, none⟩) (by show w.heap.size + 1 + 1 < _; omega)]
    rw [hW3]
    exact ⟨by simp [go_sem], by simp [go_sem]⟩)
  have HSZ := Lib.hid (And.intro hs3 hsS)
  clear hbS hW3 hWS hs3 hsS HK1 HK2 HK3 HTU
  gi_wp2_with (fail)
  generalize hbe : w.heap.size = b1 at *
  generalize W3.heap.size = b2 at *
  refine range_nilT q (by omega) HTEL.out HENT.out HOW.out (fun x => rfl) (by simp [go_sem]) ?_
  intro E V hE hb hK
  have HBV := Lib.hid hb
  have k2 := (hb.cell (p := ⟨b1 + 1, 0, none⟩) (by show b1 + 1 < _; have := HSZ.out.2; omega)).trans HS2.out
  have k3 := (hb.cell (p := ⟨b1 + 1 + 1, 0, none⟩) (by show b1 + 1 + 1 < _; have := HSZ.out.2; omega)).trans HS3.out
  have f2 : V.frozen? ⟨b1 + 1, 0, none⟩ = false := (hb.frozen (p := ⟨b1 + 1, 0, none⟩) (by show b1 + 1 < _; have := HSZ.out.2; omega)).trans (HFR.out 0).1
  have f3 : V.frozen? ⟨b1 + 1 + 1, 0, none⟩ = false := (hb.frozen (p := ⟨b1 + 1 + 1, 0, none⟩) (by show b1 + 1 + 1 < _; have := HSZ.out.2; omega)).trans (HFR.out 0).2
  have HK := Lib.hid hK
  clear hb hK
  gi_wp2_with (fail)
  have e2 := HSZ.out.2
  have hO : Only (fun k => k = b1 + 1 ∨ k = b1 + 1 + 1) V ((V.setCell ⟨b1 + 1, 0, none⟩ (.int .i64 0)).setCell ⟨b1 + 1 + 1, 0, none⟩ (.bool false)) :=
    ((Only.setCell (S := fun k => k = b1 + 1) V ⟨b1 + 1, 0, none⟩ rfl _).mono (fun k hk => .inl hk)).trans ((Only.setCell (S := fun k => k = b1 + 1 + 1) _ ⟨b1 + 1 + 1, 0, none⟩ rfl _).mono (fun k hk => .inr hk))
  have hVE : E < V.heap.size := (Array.getElem?_eq_some_iff.1 HK.out).1
  have hKE := (hO.block E hVE (by omega)).trans HK.out
  have d2 : ((V.setCell ⟨b1 + 1, 0, none⟩ (.int .i64 0)).setCell ⟨b1 + 1 + 1, 0, none⟩ (.bool false)).cell? ⟨b1 + 1, 0, none⟩ = some (.int .i64 0) := by simp [go_sem, k2]
  have d3 : ((V.setCell ⟨b1 + 1, 0, none⟩ (.int .i64 0)).setCell ⟨b1 + 1 + 1, 0, none⟩ (.bool false)).cell? ⟨b1 + 1 + 1, 0, none⟩ = some (.bool false) := by simp [go_sem, k3]
  have hbF : Below w.heap.size w ((V.setCell ⟨b1 + 1, 0, none⟩ (.int .i64 0)).setCell ⟨b1 + 1 + 1, 0, none⟩ (.bool false)) := by
    have hbV : Below w.heap.size w V := by rw [hbe]; exact HBW.out.trans (HBV.out.mono (by omega))
    exact hO.below hbV (by have := hbV.size; exact this) (fun k hk => by omega)
  generalize (V.setCell ⟨b1 + 1, 0, none⟩ (.int .i64 0)).setCell ⟨b1 + 1 + 1, 0, none⟩ (.bool false) = V2 at *
  refine leaves_one hKE ?_
  refine ⟨.tuple #[.int .i64 0, .bool false], ?_, rfl, ?_⟩
  · have g2 := (cell_putObj V2 E (.deferred none) ⟨b1 + 1, 0, none⟩ (by show b1 + 1 ≠ E; omega)).trans d2
    have g3 := (cell_putObj V2 E (.deferred none) ⟨b1 + 1 + 1, 0, none⟩ (by show b1 + 1 + 1 ≠ E; omega)).trans d3
    simp [results, Try.f17, go_sem, g2, g3]
  · exact below_putObj hbF E _ (by omega) (by have := hbF.size; omega)
theorem next_none {X : Thg} {w : World} {d : Option Nat} {m : Bool} (hlt : ∀ k, X.has k → k < w.heap.size) (hA : ∀ W, (∀ k, X.has k → W.heap[k]? = w.heap[k]?) → CkMay W d m []) :
    Calls Try.prog 17 #[.pointer (d.map fun d => ⟨d, 0, none⟩)] w fun e w' => e = .returned (.tuple #[.int .i64 0, .bool false]) ∧ Below w.heap.size w w' := callsIn_wide.1 (next_none_in 12 (Nat.le_refl _) hlt hA)
/-- The caller's own state: its boxes, the map; what it may have turned. -/
structure NxI (w : World) (p mb : Nat) (v0 : Value) (b1 : Nat) (n : Int) (b : Bool) (f : Int → Option (Bool × Bool)) (W : World) : Prop where
  box : RowAt W b1 1 (fun _ => .pointer (some ⟨p, 0, none⟩))
  r2 : RowAt W (b1 + 1) 1 (fun _ => .int .i64 n)
  r3 : RowAt W (b1 + 1 + 1) 1 (fun _ => .bool b)
  mp : MpAt W mb f
  only : Only (fun k => k = p ∨ v0.ownBlock = some k ∨ k = mb ∨ w.heap.size ≤ k) w W
section
variable {w X Y : World} {p mb b1 : Nat} {v0 : Value} {n : Int} {b : Bool} {f : Int → Option (Bool × Bool)}
theorem NxI.turn {S : Nat → Prop} (h : NxI w p mb v0 b1 n b f X) (ho : Only S X Y) (h1 : ¬ S b1) (h2 : ¬ S (b1 + 1)) (h3 : ¬ S (b1 + 1 + 1)) (h4 : ¬ S mb) (h5 : ∀ k, S k → k = p ∨ v0.ownBlock = some k ∨ k = mb ∨ w.heap.size ≤ k) : NxI w p mb v0 b1 n b f Y :=
  ⟨h.box.only ho h1, h.r2.only ho h2, h.r3.only ho h3, h.mp.only ho h4, h.only.trans (ho.mono h5)⟩
theorem NxI.grown {row : Option Nat} {B : Nat} (h : NxI w p mb v0 b1 n b f X) (hmb : mb < B) (hw : w.heap.size ≤ B) (hg : X.grownBy Y row) (hr : ∀ r, row = some r → B ≤ r ∧ ∃ o : Obj, X.heap[r]? = some o ∧ o.isCells = false) : NxI w p mb v0 b1 n b f Y := by
  have hr2 : ∀ r, row = some r → ∃ o : Obj, X.heap[r]? = some o ∧ o.isCells = false := fun r e => (hr r e).2
  refine ⟨row_grown h.box hg hr2, row_grown h.r2 hg hr2, row_grown h.r3 hg hr2, h.mp.block (hg.block mb h.mp.lt (fun e => by have := (hr mb e.symm).1; omega)), h.only.trans ((Only.of_grown hg).mono (fun k e => ?_))⟩
  exact .inr (.inr (.inr (Nat.le_trans hw (hr k e).1)))
end
end Go.Proofs.Ytndddfkebbeemaa
