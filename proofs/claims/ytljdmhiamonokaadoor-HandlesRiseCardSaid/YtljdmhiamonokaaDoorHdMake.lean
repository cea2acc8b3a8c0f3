/-
  handles: Make.
-/
import Derived.Test.YtljdmhiamonokaaDoorHdPart
import Derived.Test.YtljdmhiamonokaaDoorRow
namespace Go.Proofs.YtljdmhiamonokaaDoor
open Go.RowKit Go
theorem quiet_eq {P : Program} {f : FuncId} {args : Array Value} {w : World} {n : Nat} {v : Value}
    (h : Calls P f args (w.drewN n) fun e w' => e = .returned v ∧ w.drewN n = w') : Calls P f args (w.drewN n) fun e w'' => e = .returned v ∧ ∃ m, w'' = w.drewN m :=
  h.mono fun _ _ ⟨he, hm⟩ => ⟨he, n, hm.symm⟩
/-- A place that lies in a block of its own. -/
def obV (x y : Int) (i : Nat) : Value := if i = 0 then .int .i64 x else .int .i64 y
abbrev TO : TypeId := 24
theorem obj_row (w : World) (x y : Int) : RowAt (w.alloc (.cells #[.int .i64 x, .int .i64 y] TO)) w.heap.size 2 (obV x y) :=
  RowAt.new w _ _ _ _ fun i hi => by
    rcases (show i = 0 ∨ i = 1 by omega) with rfl | rfl <;> rfl
theorem BegAt.drewN {w : World} (h : BegAt w) (n : Nat) : BegAt (w.drewN n) := h
set_option maxRecDepth 100000 in
set_option maxHeartbeats 2000000 in
theorem make_any (t : Nat) (f x : Int) (w : World) (hg : BegAt w) : Calls Tryd.prog 7 #[.int .u64 t, .agg #[.int .i64 f, .int .i64 x]] w (MadeP w t f x) := by
  have hb : Below w.heap.size w (w.alloc (.cells #[.int .i64 f, .int .i64 x] 24)) := (Below.refl w.heap.size w).alloc (Nat.le_refl _) _
  have HB := Lib.hid hb
  have HG := Lib.hid hg
  unfold MadeP mkV mkE
  by_cases h : May t f x
  · rw [if_pos h, if_pos h]
    obtain ⟨⟨ht1, ht2⟩, ⟨hf1, hf2⟩, hx1, hx2⟩ := h
    obtain ⟨f, rfl⟩ := Int.eq_ofNat_of_zero_le hf1
    obtain ⟨x, rfl⟩ := Int.eq_ofNat_of_zero_le hx1
    have hd := Lib.hid (show decide (May t (f : Int) (x : Int)) = true from decide_eq_true ⟨⟨ht1, ht2⟩, ⟨hf1, hf2⟩, hx1, hx2⟩)
    have hf3 : f < 1024 := by omega
    have hx3 : x < 32 := by omega
    have HR := Lib.hid (show (t : Int) * 32768 + (f : Int) * 32 + (x : Int) = ((t * 32768 + f * 32 + x : Nat) : Int) by omega)
    have HT2 := Lib.hid ht2
    have HF3 := Lib.hid hf3
    have HX3 := Lib.hid hx3
    have ew := IntKind.wrap_u64
    have ef : IntKind.u64.wrap (f : Int) = f := by rw [wrap64u]; omega
    have ex : IntKind.u64.wrap (x : Int) = x := by rw [wrap64u]; omega
    rw [HR.out]
    clear ht1 ht2 hf1 hf2 hx1 hx2 hf3 hx3 hb hg ew
    go_enter Tryd.func7, Tryd.ntmps7
    go_wp2_with (fail)
    refine (may_any _ _ _ _).mono ?_
    rintro e w1 ⟨rfl, h1⟩
    have HB1 := Lib.hid (HB.out.trans (h1.mono HB.out.size))
    have HG1 := Lib.hid (HG.out.later HB1.out)
    have hr := (obj_row w f x).later h1
    have c0 : w1.cell? ⟨w.heap.size, 0, none⟩ = some (.int .i64 f) := hr.cell 0 (by decide)
    have c1 : w1.cell? ⟨w.heap.size, 1, none⟩ = some (.int .i64 x) := hr.cell 1 (by decide)
    have EC := Lib.hid (show bits .or .u64 (bits .or .u64 ((t : Int) * 32768) ((f : Int) * 32)) (x : Int) = ((t * 32768 + f * 32 + x : Nat) : Int) by
      rw [show (t : Int) * 32768 = ((t * 32768 : Nat) : Int) by omega, show (f : Int) * 32 = ((f * 32 : Nat) : Int) by omega, or_two t f HT2.out HF3.out, or_three t f x HT2.out HF3.out HX3.out])
    rw [hd.out]
    clear hr h1
    go_wp2_with (fail)
    go_quiet ((first | (go_at_call 13; first | with_reducible exact quiet_eq (put2_any (HG1.out.drewN _) t HT2.out) | with_reducible exact quiet_eq (put1_any (HG1.out.drewN _) f HF3.out) | with_reducible exact quiet_eq (put0_any (HG1.out.drewN _) x HX3.out))))
    rw [EC.out]
    go_wp2_with (fail)
    go_ret2
    exact ⟨rfl, below_drewN HB1.out nq⟩
  · rw [if_neg h, if_neg h]
    have hd := Lib.hid (show decide (May t f x) = false from decide_eq_false h)
    clear h hb hg
    go_enter Tryd.func7, Tryd.ntmps7
    go_wp2_with (fail)
    refine (may_any _ _ _ _).mono ?_
    rintro e w1 ⟨rfl, h1⟩
    rw [hd.out]
    go_wp2_with (fail)
    go_ret2
    exact ⟨rfl, HB.out.trans (h1.mono HB.out.size)⟩
end Go.Proofs.YtljdmhiamonokaaDoor
