/-
  rmap, the document's: how it lies; May, Find.
-/
import Derived.Test.YtjjcbbnnilafdaaRmOk
import Derived.Test.YtjjcbbnnilafdaaLexApp
namespace Go.Proofs.Ytjjcbbnnilafdaa
open Go.RowKit Go.Shelf Go
attribute [local go_sem] Oper.semAt_some

abbrev TPg : TypeId := 41
theorem sizePg : (Try.prog.info? 41).map (·.size) = some 2 := by kernel_rfl
def pgV (f : Nat → Ownr) (j : Nat) : Value := if j % 2 = 0 then .int .i64 (f (j / 2)).1 else .int .i64 (f (j / 2)).2
/-- The document's map lies at rb; its list in block lb. -/
structure RefM (w : World) (rb lb N : Nat) (f : Nat → Ownr) : Prop where
  c0 : ∃ cap, w.cell? ⟨rb, 0, none⟩ = some (.slice (some ⟨lb, 0, none⟩) N cap)
  row : RowAt w lb (N * 2) (pgV f)
  ne : rb ≠ lb
theorem load_pg {W : World} {g o : Nat} {x y : Int} (h0 : W.cell? ⟨g, o, none⟩ = some (.int .i64 x)) (h1 : W.cell? ⟨g, o + 1, none⟩ = some (.int .i64 y)) :
    (loadVar TPg ⟨g, o, none⟩).run Try.prog W = .ok (.agg #[.int .i64 x, .int .i64 y]) W :=
  run_loadVar_mid (P := Try.prog) W g o TPg [.int .i64 x, .int .i64 y] _ (fun j v hj => by
    match j, hj with
    | 0, hj => simp at hj; subst hj; exact h0
    | 1, hj => simp at hj; subst hj; exact h1) Try.underlying41 rfl sizePg
section
variable {w w' : World} {rb lb N : Nat} {f : Nat → Ownr}
theorem RefM.later (h : RefM w rb lb N f) (hb : Below w.heap.size w w') : RefM w' rb lb N f := by
  obtain ⟨cap, e⟩ := h.c0
  exact ⟨⟨cap, by rw [hb.cell (World.block_lt_of_cell? _ _ e)]; exact e⟩, h.row.later hb, h.ne⟩
theorem RefM.only {S : Nat → Prop} (h : RefM w rb lb N f) (ho : Only S w w') (h1 : ¬ S rb) (h2 : ¬ S lb) : RefM w' rb lb N f := by
  obtain ⟨cap, e⟩ := h.c0
  exact ⟨⟨cap, ho.cell h1 e⟩, h.row.only ho h2, h.ne⟩
theorem RefM.at (h : RefM w rb lb N f) {i : Nat} (hi : i < N) {y1 y2 : Nat} (hy : f i = (y1, y2)) : w.cell? ⟨lb, i * 2, none⟩ = some (.int .i64 y1) ∧ w.cell? ⟨lb, i * 2 + 1, none⟩ = some (.int .i64 y2) := by
  refine ⟨?_, ?_⟩
  · rw [h.row.cell (i * 2) (by omega), pgV, if_pos (by omega), show i * 2 / 2 = i by omega, hy]
  · rw [h.row.cell (i * 2 + 1) (by omega), pgV, if_neg (by omega), show (i * 2 + 1) / 2 = i by omega, hy]
set_option maxRecDepth 100000 in
set_option maxHeartbeats 2000000 in
theorem rmay_any (w : World) (p q : Int) : Calls Try.prog 23 #[.int .i64 p, .int .i64 q] w fun e w' => e = .returned (.bool (decide (PgOk p q))) ∧ w = w' := by
  by_cases h1 : 1 ≤ p
  · by_cases h2 : p ≤ 8
    · by_cases h3 : 0 ≤ q
      · by_cases h4 : q ≤ 1023
        · rw [show decide (PgOk p q) = true from decide_eq_true ⟨h1, h2, h3, h4⟩]
          go_enter Try.func23, Try.ntmps23
          go_wp2_with (fail)
          go_ret
          exact ⟨rfl, rfl⟩
        · rw [show decide (PgOk p q) = false from decide_eq_false (fun h => h4 h.2.2.2)]
          go_enter Try.func23, Try.ntmps23
          go_wp2_with (fail)
          go_ret
          exact ⟨rfl, rfl⟩
      · rw [show decide (PgOk p q) = false from decide_eq_false (fun h => h3 h.2.2.1)]
        go_enter Try.func23, Try.ntmps23
        go_wp2_with (fail)
        go_ret
        exact ⟨rfl, rfl⟩
    · rw [show decide (PgOk p q) = false from decide_eq_false (fun h => h2 h.2.1)]
      go_enter Try.func23, Try.ntmps23
      go_wp2_with (fail)
      go_ret
      exact ⟨rfl, rfl⟩
  · rw [show decide (PgOk p q) = false from decide_eq_false (fun h => h1 h.1)]
    go_enter Try.func23, Try.ntmps23
    go_wp2_with (fail)
    go_ret
    exact ⟨rfl, rfl⟩
/-- A page's frame, or -1. -/
def frI (f : Nat → Ownr) (N : Nat) (p : Int) (q : Nat) : Int := if 1 ≤ p then (match findF f (p.toNat, q) N with
  | some i => (i : Int)
  | none => -1) else -1
theorem findF_hit {i n : Nat} {x : Ownr} (h : findF f x i = none) (hx : f i = x) (hi : i < n) : findF f x n = some i := by
  cases h2 : findF f x n with
  | none => exact absurd hx (findF_none h2 i hi)
  | some j =>
    obtain ⟨h3, h4⟩ := findF_some h2
    rcases Nat.lt_trichotomy j i with hlt | rfl | hgt
    · exact absurd h4 (findF_none h j hlt)
    · rfl
    · exfalso
      induction n with
      | zero => omega
      | succ n ih =>
        unfold findF at h2
        cases h5 : findF f x n with
        | some k =>
          rw [h5] at h2
          cases h2
          have := (findF_some h5).1
          exact ih (by omega) h5 this
        | none =>
          by_cases e : i = n
          · omega
          · exact findF_none h5 i (by omega) hx
set_option maxRecDepth 100000 in
set_option maxHeartbeats 4000000 in
theorem rfind_any (R : RefM w rb lb N f) (hN : N ≤ 1024) (p : Int) (q : Nat) : Calls Try.prog 24 #[.pointer (some ⟨rb, 0, none⟩), .int .i64 p, .int .i64 q] w fun e w' => e = .returned (.int .i64 (frI f N p q)) ∧ Below w.heap.size w w' := by
  have HR := Lib.hid R
  obtain ⟨cap, c0⟩ := R.c0
  have HC := Lib.hid c0
  clear R
  have HB := Lib.hid (Below.refl w.heap.size w)
  go_enter Try.func24, Try.ntmps24
  go_wp2_with (fail)
  go_loop [7] (fun i => ∃ k : Nat, k ≤ N ∧ i = .int .i64 k ∧ Hid (1 ≤ p → findF f (p.toNat, q) k = none)) (fun i => N - (intOf i).toNat)
  case atStart => exact ⟨0, Nat.zero_le _, rfl, Lib.hid (fun _ => rfl)⟩
  case round =>
    obtain ⟨k, hk, rfl, HF⟩ := hrel
    by_cases hlt : k < N
    · have hltI : (k : Int) < (N : Int) := by omega
      obtain ⟨y, hy⟩ : ∃ y, f k = y := ⟨_, rfl⟩
      obtain ⟨y1, y2⟩ := y
      obtain ⟨k0, k1⟩ := HR.out.at hlt hy
      by_cases hp : 1 ≤ p
      · obtain ⟨P, rfl⟩ : ∃ P : Nat, p = P := ⟨p.toNat, by omega⟩
        have hpI : (0 : Int) < (P : Int) := by omega
        by_cases h1 : y1 = P
        · by_cases h2 : y2 = q
          · subst h1; subst h2
            have HFI := Lib.hid (show frI f N (y1 : Int) y2 = (k : Int) from by
              unfold frI
              have h3 := HF.out hp
              rw [Int.toNat_natCast] at h3 ⊢
              rw [if_pos hp, findF_hit h3 hy hlt])
            clear hy
            go_wp2_with (fail)
            go_ret
            exact ⟨by rw [HFI.out]; rfl, HB.out⟩
          · have HN := Lib.hid (show 1 ≤ (P : Int) → findF f ((P : Int).toNat, q) (k + 1) = none from fun h => by
              have h3 := HF.out h
              rw [findF, h3]
              dsimp only
              rw [if_neg (fun e => h2 (by rw [hy] at e; exact congrArg Prod.snd e))])
            have h2I : ¬ (y2 : Int) = (q : Int) := by omega
            subst h1
            clear hy
            go_wp2_with (fail)
            go_round
            case rel => exact ⟨k + 1, hlt, by go_num, HN⟩
            case measure => simp [intOf]; omega
        · have HN := Lib.hid (show 1 ≤ (P : Int) → findF f ((P : Int).toNat, q) (k + 1) = none from fun h => by
            have h3 := HF.out h
            rw [findF, h3]
            dsimp only
            rw [if_neg (fun e => h1 (by rw [hy] at e; exact congrArg Prod.fst e))])
          have h1I : ¬ (y1 : Int) = (P : Int) := by omega
          clear hy
          go_wp2_with (fail)
          go_round
          case rel => exact ⟨k + 1, hlt, by go_num, HN⟩
          case measure => simp [intOf]; omega
      · have hpI : ¬ (0 : Int) < p := by omega
        have HN := Lib.hid (show 1 ≤ p → findF f (p.toNat, q) (k + 1) = none from fun h => absurd h hp)
        clear hy
        by_cases h1 : (y1 : Int) = p
        · by_cases h2 : (y2 : Int) = (q : Int)
          · go_wp2_with (fail)
            go_round
            case rel => exact ⟨k + 1, hlt, by go_num, HN⟩
            case measure => simp [intOf]; omega
          · go_wp2_with (fail)
            go_round
            case rel => exact ⟨k + 1, hlt, by go_num, HN⟩
            case measure => simp [intOf]; omega
        · go_wp2_with (fail)
          go_round
          case rel => exact ⟨k + 1, hlt, by go_num, HN⟩
          case measure => simp [intOf]; omega
    · obtain rfl : k = N := by omega
      have HFI := Lib.hid (show frI f k p q = -1 from by
        unfold frI
        by_cases hp : 1 ≤ p
        · rw [if_pos hp, HF.out hp]
        · rw [if_neg hp])
      go_wp2_with (fail)
      go_ret
      exact ⟨by rw [HFI.out]; rfl, HB.out⟩
end
end Go.Proofs.Ytjjcbbnnilafdaa
