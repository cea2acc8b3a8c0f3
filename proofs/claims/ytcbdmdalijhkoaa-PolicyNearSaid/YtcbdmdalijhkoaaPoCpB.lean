/-
  policy: the config's and the policy's boxes, and their loads.
-/
import Derived.Test.YtcbdmdalijhkoaaPoDoc
import Derived.Test.YtcbdmdalijhkoaaCfgK
import Derived.Test.YtcbdmdalijhkoaaLexH
namespace Go.Proofs.Ytcbdmdalijhkoaa
open Go.RowKit Go
attribute [local go_sem] Oper.semAt_some

/-- The config's and the policy's boxes. -/
structure CpB (w : World) (A : Array Value) (g : Nat → Int) (k m : Nat) (W : World) : Prop where
  cfg : CfgAt W w.heap.size A g
  k0 : W.cell? ⟨w.heap.size + 1, 0, none⟩ = some (.int .u8 (k : Int))
  k1 : W.cell? ⟨w.heap.size + 1, 1, none⟩ = some (.int .u8 (m : Int))
  bel : Below w.heap.size w W
theorem CpB.later {w W W' : World} {A : Array Value} {g : Nat → Int} {k m : Nat} (h : CpB w A g k m W) (hb : Below W.heap.size W W') : CpB w A g k m W' :=
  ⟨h.cfg.later hb, by rw [hb.cell (World.block_lt_of_cell? _ _ h.k0)]; exact h.k0, by rw [hb.cell (World.block_lt_of_cell? _ _ h.k1)]; exact h.k1, h.bel.trans (hb.mono h.bel.size)⟩
theorem cpb_new (w : World) {A : Array Value} {g : Nat → Int} (hA : Cfg A g) (k m : Nat) : CpB w A g k m ((w.alloc (.cells A 26)).alloc (.cells #[.int .u8 (k : Int), .int .u8 (m : Int)] 29)) := by
  refine ⟨(CfgAt.new w hA).later ((Below.refl _ _).alloc (Nat.le_refl _) _), ?_, ?_, ((Below.refl _ _).alloc (Nat.le_refl _) _).alloc (by simp) _⟩
  · have h := cell_of_row _ _ 0 _ _ _ (heap_alloc2_new w (.cells A 26) (.cells #[.int .u8 (k : Int), .int .u8 (m : Int)] 29))
    exact h
  · have h := cell_of_row _ _ 1 _ _ _ (heap_alloc2_new w (.cells A 26) (.cells #[.int .u8 (k : Int), .int .u8 (m : Int)] 29))
    exact h
theorem load_cfgP {W : World} {b : Nat} {A : Array Value} {g : Nat → Int} (C : CfgAt W b A g) : (loadVar 26 ⟨b, 0, none⟩).run Try.prog W = .ok (.agg A) W :=
  run_loadVar_row (P := Try.prog) W b 26 26 A (0, 0) _ C.block Try.underlying26 rfl (by rw [C.cfg.size]; kernel_rfl)
theorem sizePolB : (Try.prog.info? 29).map (·.size) = some 2 := by kernel_rfl
theorem load_pol {W : World} {b k m : Nat} (h0 : W.cell? ⟨b, 0, none⟩ = some (.int .u8 (k : Int))) (h1 : W.cell? ⟨b, 1, none⟩ = some (.int .u8 (m : Int))) :
    (loadVar 29 ⟨b, 0, none⟩).run Try.prog W = .ok (polV k m) W :=
  run_loadVar_mid (P := Try.prog) W b 0 29 [.int .u8 (k : Int), .int .u8 (m : Int)] _ (fun j v hj => by
    match j, hj with
    | 0, hj => simp at hj; subst hj; exact h0
    | 1, hj => simp at hj; subst hj; exact h1) Try.underlying29 rfl sizePolB
theorem CpB.loads {w W : World} {A : Array Value} {g : Nat → Int} {k m : Nat} (h : CpB w A g k m W) : (∀ U, Kept W.heap.size W U → (loadVar 26 ⟨w.heap.size, 0, none⟩).run Try.prog U = .ok (.agg A) U) ∧ ∀ U, Kept W.heap.size W U → (loadVar 29 ⟨w.heap.size + 1, 0, none⟩).run Try.prog U = .ok (polV k m) U :=
  ⟨fun _ hU => load_cfgP (h.later hU.below).cfg, fun _ hU => load_pol (h.later hU.below).k0 (h.later hU.below).k1⟩
end Go.Proofs.Ytcbdmdalijhkoaa
