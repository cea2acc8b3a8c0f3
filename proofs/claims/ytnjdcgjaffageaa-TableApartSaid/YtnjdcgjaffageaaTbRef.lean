/-
  table: the document's Word and Entry; entries as they lie.
-/
import Derived.Test.YtnjdcgjaffageaaTbOk
import Derived.Test.YtnjdcgjaffageaaLexApp
namespace Go.Proofs.Ytnjdcgjaffageaa
open Go.RowKit Go.Shelf Go
attribute [local go_sem] Oper.semAt_some

theorem infoEnt : (Try.prog.info? 23).map (fun i => (i.zero, i.size, i.bytes)) = some (some (.agg #[.int .u8 0, .int .i64 0]), 2, 16) := by kernel_rfl
theorem sizeEnt : (Try.prog.info? 23).map (·.size) = some 2 := by kernel_rfl
def etV (x : Ent) (i : Nat) : Value := if i = 0 then .int .u8 x.1 else .int .i64 x.2
theorem ent_row (w : World) (x : Ent) : RowAt (w.alloc (.cells #[.int .u8 x.1, .int .i64 x.2] TEnt)) w.heap.size 2 (etV x) :=
  RowAt.new w _ _ _ _ fun i hi => by
    rcases (show i = 0 ∨ i = 1 by omega) with rfl | rfl <;> rfl
theorem load_ent {W : World} {g o : Nat} {x y : Int} (h0 : W.cell? ⟨g, o, none⟩ = some (.int .u8 x)) (h1 : W.cell? ⟨g, o + 1, none⟩ = some (.int .i64 y)) :
    (loadVar TEnt ⟨g, o, none⟩).run Try.prog W = .ok (.agg #[.int .u8 x, .int .i64 y]) W :=
  run_loadVar_mid (P := Try.prog) W g o TEnt [.int .u8 x, .int .i64 y] _ (fun j v hj => by
    match j, hj with
    | 0, hj => simp at hj; subst hj; exact h0
    | 1, hj => simp at hj; subst hj; exact h1) Try.underlying23 rfl sizeEnt
theorem wrapu (n : Int) (h1 : 0 ≤ n) (h2 : n < 18446744073709551616) : IntKind.u64.wrap n = n := by
  show n % 18446744073709551616 = n
  omega
set_option maxRecDepth 100000 in
set_option maxHeartbeats 2000000 in
theorem rword_any (w : World) (k : Nat) (n : Int) (hk : k < 256) (hn : InI n) : Calls Try.prog 7 #[.agg #[.int .u8 k, .int .i64 n]] w fun e w' =>
    e = .returned (.tuple #[.int .u64 (wordV (k, n)), .int .i64 (wordE (k, n))]) ∧ Below w.heap.size w w' := by
  have HB := Lib.hid ((Below.refl w.heap.size w).alloc (Nat.le_refl _) (.cells #[.int .u8 k, .int .i64 n] TEnt))
  by_cases h1 : 3 < k
  · have e1 : wordV (k, n) = 0 := if_neg (fun h => by have := h.1; dsimp only at this; omega)
    have e2 : wordE (k, n) = 2 := if_neg (fun h => by have := h.1; dsimp only at this; omega)
    rw [e1, e2]
    have h1I : (3 : Int) < k := by omega
    clear e1 e2 h1 hk hn
    go_enter Try.func7, Try.ntmps7
    go_wp2_with (fail)
    go_ret2
    exact ⟨rfl, HB.out⟩
  · have h1I : ¬ (3 : Int) < k := by omega
    by_cases h2 : n < 0
    · have e1 : wordV (k, n) = 0 := if_neg (fun h => by have := h.2.1; dsimp only at this; omega)
      have e2 : wordE (k, n) = 2 := if_neg (fun h => by have := h.2.1; dsimp only at this; omega)
      rw [e1, e2]
      clear e1 e2 h1 hk hn
      go_enter Try.func7, Try.ntmps7
      go_wp2_with (fail)
      go_ret2
      exact ⟨rfl, HB.out⟩
    · by_cases h3 : 65535 < n
      · have e1 : wordV (k, n) = 0 := if_neg (fun h => by have := h.2.2.1; dsimp only at this; omega)
        have e2 : wordE (k, n) = 2 := if_neg (fun h => by have := h.2.2.1; dsimp only at this; omega)
        rw [e1, e2]
        clear e1 e2 h1 hk hn
        go_enter Try.func7, Try.ntmps7
        go_wp2_with (fail)
        go_ret2
        exact ⟨rfl, HB.out⟩
      · obtain ⟨N, rfl⟩ : ∃ N : Nat, n = N := ⟨n.toNat, by omega⟩
        have hN : N ≤ 65535 := by omega
        have w1 : IntKind.u64.wrap (k : Int) = k := wrapu _ (by omega) (by omega)
        have w2 : IntKind.u64.wrap (N : Int) = N := wrapu _ (by omega) (by omega)
        have w3 : IntKind.u64.wrap (4 * (N : Int)) = 4 * (N : Int) := wrapu _ (by omega) (by omega)
        have w4 : IntKind.u64.wrap ((k : Int) + 4 * (N : Int)) = (k : Int) + 4 * (N : Int) := wrapu _ (by omega) (by omega)
        by_cases h4 : k = 0
        · subst h4
          by_cases h5 : N = 0
          · subst h5
            have e1 : wordV (0, ((0 : Nat) : Int)) = 0 := rfl
            have e2 : wordE (0, ((0 : Nat) : Int)) = 0 := rfl
            rw [e1, e2]
            clear h1 hk hn w1 w2 w3 w4
            go_enter Try.func7, Try.ntmps7
            go_wp2_with (fail)
            go_ret2
            exact ⟨rfl, HB.out⟩
          · have e1 : wordV (0, (N : Int)) = 0 := if_neg (fun h => by have := h.2.2.2 rfl; dsimp only at this; omega)
            have e2 : wordE (0, (N : Int)) = 2 := if_neg (fun h => by have := h.2.2.2 rfl; dsimp only at this; omega)
            rw [e1, e2]
            have h5I : ((N : Int) == 0) = false := by simp; omega
            clear e1 e2 h1 hk hn w1 w2 w3 w4 h5
            go_enter Try.func7, Try.ntmps7
            go_wp2_with (fail)
            go_ret2
            exact ⟨rfl, HB.out⟩
        · have h4I : ((k : Int) == 0) = false := by simp; omega
          have hok : entOk (k, (N : Int)) := ⟨by dsimp only; omega, by dsimp only; omega, by dsimp only; omega, fun h => absurd h h4⟩
          have e1 : wordV (k, (N : Int)) = k + 4 * N := by unfold wordV; rw [if_pos hok]; rfl
          have e2 : wordE (k, (N : Int)) = 0 := if_pos hok
          rw [e1, e2]
          clear e1 e2 h1 hk hn w1 w2 w3 w4 h4 hok
          go_enter Try.func7, Try.ntmps7
          go_wp2_with (fail)
          go_ret2
          exact ⟨by simp, HB.out⟩
/-- Two results, the first an entry that lies in a cell. -/
theorem ret_ent {fn : Func} {p u : Tmp} (h : fn.results = #[.cell p 23, .tmp u]) {a : Act} {w : World} {Q : Ending → World → Prop} {B : Nat} {x y : Int} {b : Value} (hp : a.tmps.getD p undef = .pointer (some ⟨B, 0, none⟩)) (hu : a.tmps.getD u undef = b) (hd : a.defers = [])
    (h0 : w.cell? ⟨B, 0, none⟩ = some (.int .u8 x)) (h1 : w.cell? ⟨B, 1, none⟩ = some (.int .i64 y)) (hR : Q (.returned (.tuple #[.agg #[.int .u8 x, .int .i64 y], b])) w) : bodyPost Try.prog fn Q .ret a w := by
  refine bodyPost_ret_by ?_ hd hR
  rw [results_cell_tmp h, hp, hu]
  have hl := load_ent h0 h1
  simp only [asAddr, Sem.run_pure, Result.andThen_ok, hl]
set_option maxRecDepth 100000 in
set_option maxHeartbeats 2000000 in
theorem rentry_any (w : World) (x : Nat) (hx : x < 18446744073709551616) : Calls Try.prog 9 #[.int .u64 x] w fun e w' =>
    e = .returned (.tuple #[.agg #[.int .u8 (entV x).1, .int .i64 (entV x).2], .int .i64 (entE x)]) ∧ Below w.heap.size w w' := by
  have hr0 := ent_row w (0, 0)
  have o0 : (w.alloc (.cells #[.int .u8 0, .int .i64 0] 23)).cell? ⟨w.heap.size, 0, none⟩ = some (.int .u8 0) := hr0.cell 0 (by decide)
  have o1 : (w.alloc (.cells #[.int .u8 0, .int .i64 0] 23)).cell? ⟨w.heap.size, 1, none⟩ = some (.int .i64 0) := hr0.cell 1 (by decide)
  have z0 := hr0.frozen 0
  have z1 := hr0.frozen 1
  have HB := Lib.hid ((Below.refl w.heap.size w).alloc (Nat.le_refl _) (.cells #[.int .u8 0, .int .i64 0] 23))
  by_cases h1 : 262143 < x
  · have e1 : entV x = (0, 0) := if_neg (fun h => by have := h.1; omega)
    have e2 : entE x = 5 := if_neg (fun h => by have := h.1; omega)
    rw [e1, e2]
    have h1I : (262143 : Int) < x := by omega
    clear e1 e2 h1
    go_enter Try.func9, Try.ntmps9
    go_wp2_with (fail)
    exact ret_ent rfl rfl rfl rfl o0 o1 ⟨rfl, HB.out⟩
  · have h1I : ¬ (262143 : Int) < x := by omega
    obtain ⟨k, hk⟩ : ∃ k, x % 4 = k := ⟨_, rfl⟩
    obtain ⟨n, hn⟩ : ∃ n, x / 4 = n := ⟨_, rfl⟩
    have HKE := Lib.hid (show (x : Int) % 4 = (k : Int) from by omega)
    have HNE := Lib.hid (show (x : Int) / 4 = (n : Int) from by omega)
    have hk3 : k ≤ 3 := by omega
    have hn3 : n ≤ 65535 := by omega
    obtain ⟨w1, hw1⟩ : ∃ w1, w.alloc (.cells #[.int .u8 0, .int .i64 0] 23) = w1 := ⟨_, rfl⟩
    have HR0 := Lib.hid (show RowAt w1 w.heap.size 2 (etV (0, 0)) from by rw [← hw1]; exact hr0)
    have HB1 : Hid (Below w.heap.size w w1) := by rw [← hw1]; exact HB
    have HR4 := Lib.hid (show RowAt (w1.alloc (.cells #[.int .u8 k, .int .i64 n] 23)) w1.heap.size 2 (etV (k, (n : Int))) from ent_row w1 (k, (n : Int)))
    have HB2 := Lib.hid (HB1.out.alloc HB1.out.size (.cells #[.int .u8 k, .int .i64 n] 23))
    have HR2 := Lib.hid (HR0.out.alloc (.cells #[.int .u8 k, .int .i64 n] 23))
    have hcase : (isWord x ∧ entV x = (k, (n : Int)) ∧ entE x = 0 ∧ wordV (k, (n : Int)) = x ∧ wordE (k, (n : Int)) = 0) ∨ (entV x = (0, 0) ∧ entE x = 5 ∧ wordE (k, (n : Int)) = 2) := by
      by_cases hi : isWord x
      · left
        have e1 : entV x = (k, (n : Int)) := by rw [← hk, ← hn]; exact if_pos hi
        refine ⟨hi, e1, if_pos hi, by rw [← e1]; exact word_ent hi, by rw [← e1]; exact if_pos (ent_ok x)⟩
      · right
        refine ⟨if_neg hi, if_neg hi, if_neg fun h => hi ⟨by omega, fun h2 => ?_⟩⟩
        have h3 := h.2.2.2
        dsimp only at h3
        have := h3 (by omega)
        omega
    rcases hcase with ⟨_, e1, e2, e3, e4⟩ | ⟨e1, e2, e4⟩
    · rw [e1, e2]
      have HRW := Lib.hid (fun W => rword_any W k n (by omega) ⟨by omega, by omega⟩)
      rw [e3, e4] at HRW
      clear e1 e2 e3 e4 hk hn h1 hr0 o0 o1 z0 z1 HB
      go_enter Try.func9, Try.ntmps9
      go_wp2_with (fail)
      rw [HKE.out, HNE.out]
      clear hw1
      refine (HRW.out _).mono ?_
      rintro e w3 ⟨rfl, hb⟩
      have HB3 := Lib.hid (HB2.out.trans (hb.mono HB2.out.size))
      have c0 : w3.cell? ⟨w1.heap.size, 0, none⟩ = some (.int .u8 k) := (HR4.out.later hb).cell 0 (by decide)
      have c1 : w3.cell? ⟨w1.heap.size, 1, none⟩ = some (.int .i64 n) := (HR4.out.later hb).cell 1 (by decide)
      have r2 := HR2.out.later hb
      have o0 : w3.cell? ⟨w.heap.size, 0, none⟩ = some (.int .u8 0) := r2.cell 0 (by decide)
      have o1 : w3.cell? ⟨w.heap.size, 1, none⟩ = some (.int .i64 0) := r2.cell 1 (by decide)
      have z0 := r2.frozen 0
      have z1 := r2.frozen 1
      clear r2 hb
      go_wp2_with (fail)
      exact ret_ent rfl rfl rfl rfl (x := k) (y := n) (by simp [go_sem, o0]) (by simp [go_sem, o1]) ⟨rfl, (HB3.out.setCell (p := ⟨w.heap.size, 0, none⟩) (Nat.le_refl _) _).setCell (p := ⟨w.heap.size, 1, none⟩) (Nat.le_refl _) _⟩
    · rw [e1, e2]
      have HRW := Lib.hid (fun W => rword_any W k n (by omega) ⟨by omega, by omega⟩)
      rw [e4] at HRW
      clear e1 e2 e4 hk hn h1 hr0 o0 o1 z0 z1 HB
      go_enter Try.func9, Try.ntmps9
      go_wp2_with (fail)
      rw [HKE.out, HNE.out]
      clear hw1
      refine (HRW.out _).mono ?_
      rintro e w3 ⟨rfl, hb⟩
      have HB3 := Lib.hid (HB2.out.trans (hb.mono HB2.out.size))
      have r2 := HR2.out.later hb
      have o0 : w3.cell? ⟨w.heap.size, 0, none⟩ = some (.int .u8 0) := r2.cell 0 (by decide)
      have o1 : w3.cell? ⟨w.heap.size, 1, none⟩ = some (.int .i64 0) := r2.cell 1 (by decide)
      have z0 := r2.frozen 0
      have z1 := r2.frozen 1
      clear r2 hb
      go_wp2_with (fail)
      exact ret_ent rfl rfl rfl rfl (x := 0) (y := 0) (by simp [go_sem, o0]) (by simp [go_sem, o1]) ⟨rfl, (HB3.out.setCell (p := ⟨w.heap.size, 0, none⟩) (Nat.le_refl _) _).setCell (p := ⟨w.heap.size, 1, none⟩) (Nat.le_refl _) _⟩
theorem rword_I (w : World) (k : Nat) (n : Int) (v : Nat) (e : Int) (hk : k < 256) (hn : InI n) (hv : wordV (k, n) = v) (he : wordE (k, n) = e) : Calls Try.prog 7 #[.agg #[.int .u8 k, .int .i64 n]] w fun x w' =>
    x = .returned (.tuple #[.int .u64 v, .int .i64 e]) ∧ Below w.heap.size w w' := by
  subst hv; subst he
  exact rword_any w k n hk hn
theorem rentry_I (w : World) (x : Nat) (k : Nat) (n e : Int) (hx : x < 18446744073709551616) (hv : entV x = (k, n)) (he : entE x = e) : Calls Try.prog 9 #[.int .u64 x] w fun y w' =>
    y = .returned (.tuple #[.agg #[.int .u8 k, .int .i64 n], .int .i64 e]) ∧ Below w.heap.size w w' := by
  subst he
  have h := rentry_any w x hx
  rw [hv] at h
  exact h
end Go.Proofs.Ytnjdcgjaffageaa
