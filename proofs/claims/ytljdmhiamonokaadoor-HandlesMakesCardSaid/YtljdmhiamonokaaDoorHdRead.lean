/-
  handles: Read; the document's Make and Read.
-/
import Derived.Test.YtljdmhiamonokaaDoorHdMake
import Derived.BigRegion
namespace Go.Proofs.YtljdmhiamonokaaDoor
open Go.RowKit Go
/-- Three results, the second an object that lies in a cell. -/
theorem results_tct {fn : Func} {p u v : Tmp} {ty : TypeId} (h : fn.results = #[.tmp v, .cell p ty, .tmp u]) (tmps : Array Value) (P : Program) (w : World) :
    (results fn tmps).run P w =
      ((asAddr (tmps.getD p undef)).run P w).andThen fun a w₁ => ((loadVar ty a).run P w₁).andThen fun x w₂ => .ok (.tuple #[tmps.getD v undef, x, tmps.getD u undef]) w₂ := by
  simp only [results, h]
  simp [Sem.run_bind, Result.andThen]
theorem sizeObj : (Tryd.prog.info? TO).map (·.size) = some 2 := by kernel_rfl
theorem load_obj {W : World} {g o : Nat} {x y : Int} (h0 : W.cell? ⟨g, o, none⟩ = some (.int .i64 x)) (h1 : W.cell? ⟨g, o + 1, none⟩ = some (.int .i64 y)) :
    (loadVar TO ⟨g, o, none⟩).run Tryd.prog W = .ok (.agg #[.int .i64 x, .int .i64 y]) W :=
  run_loadVar_mid (P := Tryd.prog) W g o TO [.int .i64 x, .int .i64 y] _ (fun j v hj => by
    match j, hj with
    | 0, hj => simp at hj; subst hj; exact h0
    | 1, hj => simp at hj; subst hj; exact h1) Tryd.underlying24 rfl sizeObj
theorem set_obj {w : World} {B : Nat} {x0 y0 : Int} (R : RowAt w B 2 (obV x0 y0)) (x y : Int) : RowAt ((w.setCell ⟨B, 0, none⟩ (.int .i64 x)).setCell ⟨B, 1, none⟩ (.int .i64 y)) B 2 (obV x y) :=
  ((R.setCell 0 _).setCell 1 _).ext fun i hi => by
    unfold updV obV
    rcases (show i = 0 ∨ i = 1 by omega) with rfl | rfl <;> simp
theorem ret_tct {fn : Func} {p u v : Tmp} (h : fn.results = #[.tmp v, .cell p TO, .tmp u]) {a : Act} {w : World} {Q : Ending → World → Prop} {B : Nat} {x y : Int} {b c : Value} (hv : a.tmps.getD v undef = c) (hp : a.tmps.getD p undef = .pointer (some ⟨B, 0, none⟩)) (hu : a.tmps.getD u undef = b) (hd : a.defers = [])
    (R : RowAt w B 2 (obV x y)) (hR : Q (.returned (.tuple #[c, .agg #[.int .i64 x, .int .i64 y], b])) w) : bodyPost Tryd.prog fn Q .ret a w := by
  refine bodyPost_ret_by ?_ hd hR
  rw [results_tct h, hp, hu, hv]
  have hl := load_obj (R.cell 0 (by decide)) (R.cell 1 (by decide))
  simp only [asAddr, Sem.run_pure, Result.andThen_ok, hl]
/-- What a number is the handle of, or the refusal. -/
def rdOk (h : Nat) : Bool := decide (May (fldN 2 h) ((fldN 1 h : Nat) : Int) ((fldN 0 h : Nat) : Int))
def rdT (h : Nat) : Nat := if rdOk h = true then fldN 2 h else 0
def rdF (h : Nat) : Nat := if rdOk h = true then fldN 1 h else 0
def rdX (h : Nat) : Nat := if rdOk h = true then fldN 0 h else 0
def rdE (h : Nat) : Int := if rdOk h = true then 0 else 120
def ReadP (w : World) (h : Nat) (e : Ending) (w' : World) : Prop :=
  e = .returned (.tuple #[.int .u64 (rdT h : Int), .agg #[.int .i64 (rdF h : Int), .int .i64 (rdX h : Int)], .int .i64 (rdE h)]) ∧ Below w.heap.size w w'
theorem fld_lt (h : Nat) : fldN 0 h < 32 ∧ fldN 1 h < 1024 := by
  unfold fldN
  simp
  omega
set_option maxRecDepth 100000 in
set_option maxHeartbeats 2000000 in
theorem read_any (h : Nat) (hh : h < 18446744073709551616) (w : World) (hg : BegAt w) : Calls Tryd.prog 9 #[.int .u64 h] w (ReadP w h) := by
  have hb : Below w.heap.size w (w.alloc (.cells #[.int .i64 0, .int .i64 0] TO)) := (Below.refl w.heap.size w).alloc (Nat.le_refl _) _
  have HB := Lib.hid hb
  have HG := Lib.hid (hg.later hb)
  obtain ⟨l0, l1⟩ := fld_lt h
  have P2 := Lib.hid (show ∀ V, BegAt V → Calls Tryd.prog 14 #[.int .i64 2, .int .u64 h] V fun e w' => e = .returned (.int .u64 ((fldN 2 h : Nat) : Int)) ∧ V = w' from fun V hV => part_any 2 (by decide) h hh V hV)
  have P1 := Lib.hid (show ∀ V, BegAt V → Calls Tryd.prog 14 #[.int .i64 1, .int .u64 h] V fun e w' => e = .returned (.int .u64 ((fldN 1 h : Nat) : Int)) ∧ V = w' from fun V hV => part_any 1 (by decide) h hh V hV)
  have P0 := Lib.hid (show ∀ V, BegAt V → Calls Tryd.prog 14 #[.int .i64 0, .int .u64 h] V fun e w' => e = .returned (.int .u64 ((fldN 0 h : Nat) : Int)) ∧ V = w' from fun V hV => part_any 0 (by decide) h hh V hV)
  have HR := Lib.hid (obj_row w 0 0)
  have HS := Lib.hid (show (w.alloc (.cells #[.int .i64 0, .int .i64 0] TO)).heap.size = w.heap.size + 1 by simp)
  obtain ⟨w0, hw0⟩ : ∃ w0, w.alloc (.cells #[.int .i64 0, .int .i64 0] TO) = w0 := ⟨_, rfl⟩
  have HW := Lib.hid hw0
  rw [hw0] at HB HG HR HS
  clear hw0
  unfold ReadP rdT rdF rdX rdE rdOk
  generalize fldN 0 h = x at *
  generalize fldN 1 h = f at *
  generalize fldN 2 h = t at *
  have hf : IntKind.i64.wrap (f : Int) = f := by rw [IntKind.wrap_i64]; omega
  have hx : IntKind.i64.wrap (x : Int) = x := by rw [IntKind.wrap_i64]; omega
  clear hb hg l0 l1 hh
  generalize hD : decide (May t (f : Int) (x : Int)) = D
  have HD := Lib.hid hD
  clear hD
  cases D with
  | true =>
    go_enter Tryd.func9, Tryd.ntmps9
    go_wp2_with (fail)
    rw [HW.out]
    refine (P2.out w0 HG.out).mono ?_
    rintro e w' ⟨rfl, rfl⟩
    go_wp2_with (fail)
    refine (P1.out w0 HG.out).mono ?_
    rintro e w' ⟨rfl, rfl⟩
    go_wp2_with (fail)
    refine (P0.out w0 HG.out).mono ?_
    rintro e w' ⟨rfl, rfl⟩
    have c0 : w0.cell? ⟨w.heap.size, 0, none⟩ = some (.int .i64 0) := HR.out.cell 0 (by decide)
    have c1 : w0.cell? ⟨w.heap.size, 1, none⟩ = some (.int .i64 0) := HR.out.cell 1 (by decide)
    have z0 := HR.out.frozen 0
    have z1 := HR.out.frozen 1
    go_wp2_with (fail)
    have HR1 := Lib.hid (set_obj HR.out (f : Int) (x : Int))
    have HB1 := Lib.hid ((HB.out.setCell (p := ⟨w.heap.size, 0, none⟩) (Nat.le_refl _) (.int .i64 f)).setCell (p := ⟨w.heap.size, 1, none⟩) (Nat.le_refl _) (.int .i64 x))
    clear c0 c1 z0 z1
    generalize (w0.setCell ⟨w.heap.size, 0, none⟩ (.int .i64 f)).setCell ⟨w.heap.size, 1, none⟩ (.int .i64 x) = w1 at *
    have c0 : w1.cell? ⟨w.heap.size, 0, none⟩ = some (.int .i64 f) := HR1.out.cell 0 (by decide)
    have c1 : w1.cell? ⟨w.heap.size, 1, none⟩ = some (.int .i64 x) := HR1.out.cell 1 (by decide)
    go_wp2_with (fail)
    refine (may_any t f x w1).mono ?_
    rintro e w2 ⟨rfl, h2⟩
    have HR2 := Lib.hid (HR1.out.later h2)
    have HB2 := Lib.hid (HB1.out.trans (h2.mono HB1.out.size))
    clear c0 c1 h2
    have c0 : w2.cell? ⟨w.heap.size, 0, none⟩ = some (.int .i64 f) := HR2.out.cell 0 (by decide)
    have c1 : w2.cell? ⟨w.heap.size, 1, none⟩ = some (.int .i64 x) := HR2.out.cell 1 (by decide)
    have z0 := HR2.out.frozen 0
    have z1 := HR2.out.frozen 1
    rw [HD.out]
    go_wp2_with (fail)
    go_region
    have HR3 := Lib.hid ((set_obj HR2.out (f : Int) (x : Int)).later (Below.refl _ _).drew)
    have HB3 := Lib.hid (((HB2.out.setCell (p := ⟨w.heap.size, 0, none⟩) (Nat.le_refl _) (.int .i64 f)).setCell (p := ⟨w.heap.size, 1, none⟩) (Nat.le_refl _) (.int .i64 x)).drew)
    clear c0 c1 z0 z1
    generalize ((w2.setCell ⟨w.heap.size, 0, none⟩ (.int .i64 f)).setCell ⟨w.heap.size, 1, none⟩ (.int .i64 x)).drew = w3 at *
    go_wp2_with (fail)
    exact ret_tct rfl rfl rfl rfl rfl HR3.out ⟨rfl, HB3.out⟩
  | false =>
    go_enter Tryd.func9, Tryd.ntmps9
    go_wp2_with (fail)
    rw [HW.out]
    refine (P2.out w0 HG.out).mono ?_
    rintro e w' ⟨rfl, rfl⟩
    go_wp2_with (fail)
    refine (P1.out w0 HG.out).mono ?_
    rintro e w' ⟨rfl, rfl⟩
    go_wp2_with (fail)
    refine (P0.out w0 HG.out).mono ?_
    rintro e w' ⟨rfl, rfl⟩
    have c0 : w0.cell? ⟨w.heap.size, 0, none⟩ = some (.int .i64 0) := HR.out.cell 0 (by decide)
    have c1 : w0.cell? ⟨w.heap.size, 1, none⟩ = some (.int .i64 0) := HR.out.cell 1 (by decide)
    have z0 := HR.out.frozen 0
    have z1 := HR.out.frozen 1
    go_wp2_with (fail)
    have HR1 := Lib.hid (set_obj HR.out (f : Int) (x : Int))
    have HB1 := Lib.hid ((HB.out.setCell (p := ⟨w.heap.size, 0, none⟩) (Nat.le_refl _) (.int .i64 f)).setCell (p := ⟨w.heap.size, 1, none⟩) (Nat.le_refl _) (.int .i64 x))
    clear c0 c1 z0 z1
    generalize (w0.setCell ⟨w.heap.size, 0, none⟩ (.int .i64 f)).setCell ⟨w.heap.size, 1, none⟩ (.int .i64 x) = w1 at *
    have c0 : w1.cell? ⟨w.heap.size, 0, none⟩ = some (.int .i64 f) := HR1.out.cell 0 (by decide)
    have c1 : w1.cell? ⟨w.heap.size, 1, none⟩ = some (.int .i64 x) := HR1.out.cell 1 (by decide)
    go_wp2_with (fail)
    refine (may_any t f x w1).mono ?_
    rintro e w2 ⟨rfl, h2⟩
    have HR2 := Lib.hid (HR1.out.later h2)
    have HB2 := Lib.hid (HB1.out.trans (h2.mono HB1.out.size))
    clear c0 c1 h2
    have c0 : w2.cell? ⟨w.heap.size, 0, none⟩ = some (.int .i64 f) := HR2.out.cell 0 (by decide)
    have c1 : w2.cell? ⟨w.heap.size, 1, none⟩ = some (.int .i64 x) := HR2.out.cell 1 (by decide)
    have z0 := HR2.out.frozen 0
    have z1 := HR2.out.frozen 1
    rw [HD.out]
    have HR3 := Lib.hid (set_obj HR2.out 0 0)
    have HB3 := Lib.hid ((HB2.out.setCell (p := ⟨w.heap.size, 0, none⟩) (Nat.le_refl _) (.int .i64 0)).setCell (p := ⟨w.heap.size, 1, none⟩) (Nat.le_refl _) (.int .i64 0))
    go_wp2_with (fail)
    exact ret_tct rfl rfl rfl rfl rfl HR3.out ⟨rfl, HB3.out⟩
end Go.Proofs.YtljdmhiamonokaaDoor
