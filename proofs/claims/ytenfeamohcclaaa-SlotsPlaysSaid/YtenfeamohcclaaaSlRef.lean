/-
  slots, the document's: how they lie; New, Take, Free, All.
-/
import Derived.Test.YtenfeamohcclaaaSlOk
import Derived.Test.YtenfeamohcclaaaLexApp
import Derived.Deep.OwnRows
import Derived.Laws.AppendOwn
namespace Go.Proofs.Ytenfeamohcclaaa
open Go.RowKit Go.Shelf Go
attribute [local go_sem] Oper.semAt_some

abbrev TPg : TypeId := 42
theorem sizePg : (Try.prog.info? 42).map (·.size) = some 2 := by kernel_rfl
def pgV (f : Nat → Ownr) (j : Nat) : Value := if j % 2 = 0 then .int .i64 (f (j / 2)).1 else .int .i64 (f (j / 2)).2
/-- The document's map lies at rb; its list in block lb. -/
structure RefM (w : World) (rb lb N : Nat) (f : Nat → Ownr) : Prop where
  c0 : ∃ cap, w.cell? ⟨rb, 0, none⟩ = some (.slice (some ⟨lb, 0, none⟩) N cap)
  row : RowAt w lb (N * 2) (pgV f)
  ne : rb ≠ lb
theorem load_pg {W : World} {g o : Nat} {x y : Int} (h0 : W.cell? ⟨g, o, none⟩ = some (.int .i64 x)) (h1 : W.cell? ⟨g, o + 1, none⟩ = some (.int .i64 y)) :
    (loadVar TPg ⟨g, o, none⟩).run Try.prog W = .ok (.agg #[.int .i64 x, .int .i64 y]) W :=
  run_loadVar_mid (P := Try.prog) W g o TPg [.int .i64 x, .int .i64 y] _ (fun j v hj => by
    match j, hj with
    | 0, hj => simp at hj; subst hj; exact h0
    | 1, hj => simp at hj; subst hj; exact h1) Try.underlying42 rfl sizePg
section
variable {w w' : World} {rb lb N : Nat} {f : Nat → Ownr}
theorem RefM.later (h : RefM w rb lb N f) (hb : Below w.heap.size w w') : RefM w' rb lb N f := by
  obtain ⟨cap, e⟩ := h.c0
  exact ⟨⟨cap, by rw [hb.cell (World.block_lt_of_cell? _ _ e)]; exact e⟩, h.row.later hb, h.ne⟩
theorem RefM.only {S : Nat → Prop} (h : RefM w rb lb N f) (ho : Only S w w') (h1 : ¬ S rb) (h2 : ¬ S lb) : RefM w' rb lb N f := by
  obtain ⟨cap, e⟩ := h.c0
  exact ⟨⟨cap, ho.cell h1 e⟩, h.row.only ho h2, h.ne⟩
theorem RefM.at (h : RefM w rb lb N f) {i : Nat} (hi : i < N) {y1 y2 : Nat} (hy : f i = (y1, y2)) : w.cell? ⟨lb, i * 2, none⟩ = some (.int .i64 y1) ∧ w.cell? ⟨lb, i * 2 + 1, none⟩ = some (.int .i64 y2) := by
  refine ⟨?_, ?_⟩
  · rw [h.row.cell (i * 2) (by omega), pgV, if_pos (by omega), show i * 2 / 2 = i by omega, hy]
  · rw [h.row.cell (i * 2 + 1) (by omega), pgV, if_neg (by omega), show (i * 2 + 1) / 2 = i by omega, hy]
set_option maxRecDepth 100000 in
set_option maxHeartbeats 2000000 in
theorem rmay_any (w : World) (p q : Int) : Calls Try.prog 24 #[.int .i64 p, .int .i64 q] w fun e w' => e = .returned (.bool (decide (PgOk p q))) ∧ w = w' := by
  by_cases h1 : 1 ≤ p
  · by_cases h2 : p ≤ 8
    · by_cases h3 : 0 ≤ q
      · by_cases h4 : q ≤ 1023
        · rw [show decide (PgOk p q) = true from decide_eq_true ⟨h1, h2, h3, h4⟩]
          go_enter Try.func24, Try.ntmps24
          go_wp2_with (fail)
          go_ret
          exact ⟨rfl, rfl⟩
        · rw [show decide (PgOk p q) = false from decide_eq_false (fun h => h4 h.2.2.2)]
          go_enter Try.func24, Try.ntmps24
          go_wp2_with (fail)
          go_ret
          exact ⟨rfl, rfl⟩
      · rw [show decide (PgOk p q) = false from decide_eq_false (fun h => h3 h.2.2.1)]
        go_enter Try.func24, Try.ntmps24
        go_wp2_with (fail)
        go_ret
        exact ⟨rfl, rfl⟩
    · rw [show decide (PgOk p q) = false from decide_eq_false (fun h => h2 h.2.1)]
      go_enter Try.func24, Try.ntmps24
      go_wp2_with (fail)
      go_ret
      exact ⟨rfl, rfl⟩
  · rw [show decide (PgOk p q) = false from decide_eq_false (fun h => h1 h.1)]
    go_enter Try.func24, Try.ntmps24
    go_wp2_with (fail)
    go_ret
    exact ⟨rfl, rfl⟩
end
/-- What a call that turns leaves. -/
def RsP (w : World) (rb lb N : Nat) (E : Int) (g : Nat → Ownr) (e : Ending) (w' : World) : Prop := e = .returned (.int .i64 E) ∧ RefM w' rb lb N g ∧ Only (fun k => k = lb) w w'
section
variable {w w' : World} {rb lb N : Nat} {f : Nat → Ownr}
theorem RsP.same (R : RefM w rb lb N f) {E : Int} (hb : Below w.heap.size w w') : RsP w rb lb N E f (.returned (.int .i64 E)) w' := ⟨rfl, R.later hb, Only.of_below hb⟩
theorem RefM.put (R : RefM w rb lb N f) (i y1 y2 : Nat) : RefM ((w.setCell ⟨lb, i * 2, none⟩ (.int .i64 y1)).setCell ⟨lb, i * 2 + 1, none⟩ (.int .i64 y2)) rb lb N (updO f i (y1, y2)) ∧
    Only (fun k => k = lb) w ((w.setCell ⟨lb, i * 2, none⟩ (.int .i64 y1)).setCell ⟨lb, i * 2 + 1, none⟩ (.int .i64 y2)) := by
  have ho : Only (fun k => k = lb) w ((w.setCell ⟨lb, i * 2, none⟩ (.int .i64 y1)).setCell ⟨lb, i * 2 + 1, none⟩ (.int .i64 y2)) :=
    (Only.setCell (S := fun k => k = lb) w ⟨lb, i * 2, none⟩ rfl _).trans (Only.setCell (S := fun k => k = lb) _ ⟨lb, i * 2 + 1, none⟩ rfl _)
  obtain ⟨cap, e⟩ := R.c0
  refine ⟨⟨⟨cap, ho.cell R.ne e⟩, ((R.row.setCell (i * 2) (.int .i64 y1)).setCell (i * 2 + 1) (.int .i64 y2)).ext (fun j _ => ?_), R.ne⟩, ho⟩
  unfold updV pgV updO
  by_cases h1 : j = i * 2 + 1
  · subst h1
    rw [if_pos rfl, if_neg (by omega), if_pos (by omega)]
  · rw [if_neg h1]
    by_cases h0 : j = i * 2
    · subst h0
      rw [if_pos rfl, if_pos (by omega), if_pos (by omega)]
    · rw [if_neg h0, if_neg (show ¬ j / 2 = i by omega)]
set_option maxRecDepth 100000 in
set_option maxHeartbeats 4000000 in
theorem rfree_any (R : RefM w rb lb N f) (x : Int) : Calls Try.prog 15 #[.pointer (some ⟨rb, 0, none⟩), .int .i64 x] w (RsP w rb lb N (rcE f N x) (rcF f N x)) := by
  have HR := Lib.hid R
  obtain ⟨cap, c0⟩ := R.c0
  clear R
  by_cases hx0 : x < 0
  · have e1 : rcE f N x = 2 := if_neg (fun h => by have := h.1; omega)
    have e2 : rcF f N x = f := if_neg (by rw [e1]; decide)
    rw [e1, e2]
    clear e1 e2
    go_enter Try.func15, Try.ntmps15
    go_wp2_with (fail)
    go_ret
    exact RsP.same HR.out (Below.refl _ _)
  · by_cases hxN : (N : Int) ≤ x
    · have e1 : rcE f N x = 2 := if_neg (fun h => by have := h.2; omega)
      have e2 : rcF f N x = f := if_neg (by rw [e1]; decide)
      rw [e1, e2]
      clear e1 e2
      go_enter Try.func15, Try.ntmps15
      go_wp2_with (fail)
      go_ret
      exact RsP.same HR.out (Below.refl _ _)
    · obtain ⟨X, rfl⟩ : ∃ X : Nat, x = X := ⟨x.toNat, by omega⟩
      have hlt : X < N := by omega
      have hltI : (X : Int) < (N : Int) := by omega
      obtain ⟨y, hy⟩ : ∃ y, f X = y := ⟨_, rfl⟩
      obtain ⟨y1, y2⟩ := y
      obtain ⟨k0, k1⟩ := HR.out.at hlt hy
      have hfx : FrOk N (X : Int) := ⟨by omega, by omega⟩
      by_cases h0 : y1 = 0
      · have e1 : rcE f N X = 7 := by
          unfold rcE
          rw [if_pos hfx, Int.toNat_natCast, hy, if_pos h0]
        have e2 : rcF f N X = f := if_neg (by rw [e1]; decide)
        rw [e1, e2]
        subst h0
        have k0 : w.cell? ⟨lb, X * 2, none⟩ = some (.int .i64 0) := k0
        clear e1 e2 hfx hy
        go_enter Try.func15, Try.ntmps15
        go_wp2_with (fail)
        go_ret
        exact RsP.same HR.out (Below.refl _ _)
      · have e1 : rcE f N X = 0 := by
          unfold rcE
          rw [if_pos hfx, Int.toNat_natCast, hy, if_neg h0]
        have e2 : rcF f N X = updO f X (0, 0) := by
          unfold rcF
          rw [if_pos e1, Int.toNat_natCast]
        rw [e1, e2]
        have hy0 : ((y1 : Int) == 0) = false := by simp; omega
        have z0 := HR.out.row.frozen (X * 2)
        have z1 := HR.out.row.frozen (X * 2 + 1)
        clear e1 e2 hfx hy
        go_enter Try.func15, Try.ntmps15
        go_wp2_with (fail)
        go_ret
        obtain ⟨a1, a2⟩ := HR.out.put X 0 0
        exact ⟨rfl, a1, a2⟩
/-- What Take leaves. -/
def RtP (w : World) (rb lb N : Nat) (k : Nat) (E : Int) (g : Nat → Ownr) (e : Ending) (w' : World) : Prop := e = .returned (.tuple #[.int .i64 k, .int .i64 E]) ∧ RefM w' rb lb N g ∧ Only (fun k => k = lb) w w'
set_option maxRecDepth 100000 in
set_option maxHeartbeats 4000000 in
theorem rtake_any (R : RefM w rb lb N f) (hN : N ≤ 1024) (p q : Int) : Calls Try.prog 13 #[.pointer (some ⟨rb, 0, none⟩), .int .i64 p, .int .i64 q] w (RtP w rb lb N (stK f N p q) (stE f N p q) (stF f N p q)) := by
  have HR := Lib.hid R
  obtain ⟨cap, c0⟩ := R.c0
  have HM := Lib.hid (rmay_any w p q)
  clear R
  by_cases hp : PgOk p q
  · rw [show decide (PgOk p q) = true from decide_eq_true hp] at HM
    obtain ⟨P, rfl⟩ : ∃ P : Nat, p = P := ⟨p.toNat, by have := hp.1; omega⟩
    obtain ⟨Q, rfl⟩ : ∃ Q : Nat, q = Q := ⟨q.toNat, by have := hp.2.2.1; omega⟩
    have HP := Lib.hid hp
    clear hp
    go_enter Try.func13, Try.ntmps13
    go_wp2_with (fail)
    refine HM.out.mono ?_
    rintro e w1 ⟨rfl, rfl⟩
    go_wp2_with (fail)
    go_loop [8] (fun i => ∃ k : Nat, k ≤ N ∧ i = .int .i64 k ∧ Hid (∀ j, j < k → (f j).1 ≠ 0)) (fun i => N - (intOf i).toNat)
    case atStart => exact ⟨0, Nat.zero_le _, rfl, Lib.hid (fun _ h => absurd h (Nat.not_lt_zero _))⟩
    case round =>
      obtain ⟨k, hk, rfl, HF⟩ := hrel
      by_cases hlt : k < N
      · have hltI : (k : Int) < (N : Int) := by omega
        obtain ⟨y, hy⟩ : ∃ y, f k = y := ⟨_, rfl⟩
        obtain ⟨y1, y2⟩ := y
        obtain ⟨k0, k1⟩ := HR.out.at hlt hy
        by_cases h0 : y1 = 0
        · subst h0
          have k0 : w.cell? ⟨lb, k * 2, none⟩ = some (.int .i64 0) := k0
          have hl : leastF f N = some k := leastF_of hlt (by rw [hy]) HF.out
          have e1 : stK f N P Q = k := by unfold stK; rw [if_pos HP.out, hl]; rfl
          have e2 : stE f N P Q = 0 := by unfold stE; rw [if_pos HP.out, hl]; rfl
          have e3 : stF f N P Q = updO f k (P, Q) := by unfold stF; rw [if_pos HP.out, hl]; rfl
          rw [e1, e2, e3]
          have z0 := HR.out.row.frozen (k * 2)
          have z1 := HR.out.row.frozen (k * 2 + 1)
          clear e1 e2 e3 hl hy
          go_wp2_with (fail)
          go_ret2
          obtain ⟨a1, a2⟩ := HR.out.put k P Q
          exact ⟨rfl, a1, a2⟩
        · have hy0 : ((y1 : Int) == 0) = false := by simp; omega
          have HF2 := Lib.hid (show ∀ j, j < k + 1 → (f j).1 ≠ 0 from fun j hj => by
            by_cases e : j = k
            · rw [e, hy]; exact h0
            · exact HF.out j (by omega))
          clear hy h0
          go_wp2_with (fail)
          go_round
          case rel => exact ⟨k + 1, hlt, by go_num, HF2⟩
          case measure => simp [intOf]; omega
      · obtain rfl : k = N := by omega
        have hl : leastF f k = none := leastF_full HF.out
        have e1 : stK f k P Q = 0 := by unfold stK; rw [if_pos HP.out, hl]; rfl
        have e2 : stE f k P Q = 9 := by unfold stE; rw [if_pos HP.out, hl]; rfl
        have e3 : stF f k P Q = f := by unfold stF; rw [if_pos HP.out, hl]
        have HE := Lib.hid (show RtP w rb lb k (stK f k P Q) (stE f k P Q) (stF f k P Q) (.returned (.tuple #[.int .i64 0, .int .i64 9])) w from by
          rw [e1, e2, e3]
          exact ⟨rfl, HR.out, Only.refl _ _⟩)
        clear e1 e2 e3 hl
        go_wp2_with (fail)
        go_ret2
        exact HE.out
  · rw [show decide (PgOk p q) = false from decide_eq_false hp] at HM
    rw [show stK f N p q = 0 from if_neg hp, show stE f N p q = 2 from if_neg hp, show stF f N p q = f from if_neg hp]
    clear hp
    go_enter Try.func13, Try.ntmps13
    go_wp2_with (fail)
    refine HM.out.mono ?_
    rintro e w1 ⟨rfl, rfl⟩
    go_wp2_with (fail)
    go_ret2
    exact ⟨rfl, HR.out, Only.refl _ _⟩
theorem infoI : (Try.prog.info? 3).map (fun i => (i.zero, i.size, i.bytes)) = some (some (.int .i64 0), 1, 8) := by kernel_rfl
def encI (x : Nat) : List Value := [.int .i64 x]
theorem encI_len : ∀ p, (encI p).length = 1 := fun _ => rfl
/-- A list of ints of its own. -/
def ListI (w : World) (L : List Nat) (e : Ending) (w' : World) : Prop := ∃ v, e = .returned v ∧ w'.ownsRow w.heap.size 3 1 v L.length (recV encI L) ∧ Below w.heap.size w w'
theorem wpList_append_in (w : World) {ops : Array Oper} {rest : List Oper} {o : Oper} {a : Act} {Q : Exit → Act → World → Prop} (hgd : o.guard = none) (s x : Operand)
    (ho : o.op = .call { callee := .builtin .append, args := #[s, x], argTypes := #[43, 43] })
    (base : Nat) (v : Value) (L : List Nat) (k1 : Nat) (hown : w.ownsRow base 3 1 v L.length (recV encI L)) (hbase : base ≤ w.heap.size) (hs : a.eval s = v) (hx : a.eval x = .slice (some ⟨w.heap.size, 0, none⟩) 1 1)
    (hn : L.length ≤ 100000)
    (h : ∀ v' w', w'.ownsRow base 3 1 v' (L ++ [k1]).length (recV encI (L ++ [k1])) → Only (fun k => v.ownBlock = some k) w w' → wpList Try.prog ops Q rest (a.put o.dst v') w') :
    wpList Try.prog ops Q (o :: rest) a (w.alloc (.cells #[.int .i64 k1] 3)) := by
  obtain ⟨i0, hi, hz0, hz1, hz2⟩ := info_parts infoI
  refine wpList_append_own _ hgd s x 43 ho base 3 i0 _ 1 8 Try.underlying43 hi hz0 hz1 hz2 rfl (by decide) v L.length (recV encI L) hs (hown.alloc _) ⟨w.heap.size, 0, none⟩ 1 1 (encI k1) hx rfl (fun j u hj => ?_) (fun u hu => by simp [encI] at hu; subst hu; rfl) (by unfold maxLen; omega) (by omega) (by simp; omega) ?_
  · rw [Addr.add_lit, Nat.zero_add, cell_of_row _ _ _ _ _ _ (heap_alloc_new w _)]
    simpa [encI] using hj
  · intro v' w' h2 h3 _
    refine h v' w' ?_ ((Only.alloc _ w _).trans (Only.of_grown h3))
    rw [List.length_append, recV_append, recV_single]
    exact h2
theorem allL_le (f : Nat → Ownr) (n : Nat) : (allL f n).length ≤ n := by
  rw [allL_len]
  exact cntB_le _ _
set_option maxRecDepth 100000 in
set_option maxHeartbeats 4000000 in
theorem rall_any (R : RefM w rb lb N f) (hN : N ≤ 1024) : Calls Try.prog 18 #[.pointer (some ⟨rb, 0, none⟩)] w (ListI w (allL f N)) := by
  have HR := Lib.hid R
  clear R
  go_enter Try.func18, Try.ntmps18
  go_wp2_with (fail)
  go_loopw [3, 4] (fun u i wr => ∃ (k : Nat) (v : Value), k ≤ N ∧ u = v ∧ i = .int .i64 k ∧ Hid (wr.ownsRow w.heap.size 3 1 v (allL f k).length (recV encI (allL f k))) ∧ Hid (Below w.heap.size w wr)) (fun _ i _ => N - (intOf i).toNat)
  case atStart => exact ⟨0, _, Nat.zero_le _, rfl, rfl, World.ownsRow_nil _ _ _ _, Lib.hid (Below.refl _ _)⟩
  case round =>
    obtain ⟨k, v, hk, hv0, rfl, HO, HB⟩ := hrel
    have hv0 := hv0.symm
    subst hv0
    obtain ⟨cap, c0⟩ := (HR.out.later HB.out).c0
    by_cases hlt : k < N
    · have hltI : (k : Int) < (N : Int) := by omega
      obtain ⟨y, hy⟩ : ∃ y, f k = y := ⟨_, rfl⟩
      obtain ⟨y1, y2⟩ := y
      obtain ⟨k0, _⟩ := (HR.out.later HB.out).at hlt hy
      have HL := Lib.hid (allL_le f k)
      by_cases h0 : y1 = 0
      · subst h0
        have k0 : wr.cell? ⟨lb, k * 2, none⟩ = some (.int .i64 0) := k0
        have HX := Lib.hid (show allL f (k + 1) = allL f k from by rw [allL_succ]; unfold ownB; rw [hy]; rfl)
        clear hy
        go_wp2_with (fail)
        go_roundw
        case rel => exact ⟨k + 1, v, hlt, rfl, by go_num, by rw [HX.out]; exact HO, HB⟩
        case measure => first | (simp [intOf]; omega) | simp [intOf]
      · have hy0 : ((y1 : Int) == 0) = false := by simp; omega
        have hy1 : ((y1 : Int) != 0) = true := by simp; omega
        have HX := Lib.hid (show allL f (k + 1) = allL f k ++ [k] from by rw [allL_succ]; unfold ownB; rw [hy]; rw [decide_eq_true (show (y1, y2).1 ≠ 0 from h0)]; rfl)
        clear hy h0
        go_wp2_with (first | (refine wpList_append_in wr rfl _ _ rfl w.heap.size _ _ k HO.out HB.out.size rfl rfl (by have := HL.out; omega) ?_; intro v' w' ho hon) | fail)
        have HO3 := Lib.hid ho
        have HB3 := Lib.hid (hon.below HB.out HB.out.size (fun j hj => (HO.out.lt j hj).1))
        clear ho hon
        go_wp2_with (fail)
        go_roundw
        case rel => exact ⟨k + 1, v', hlt, rfl, by go_num, by rw [HX.out]; exact HO3, HB3⟩
        case measure => first | (simp [intOf]; omega) | simp [intOf]
    · obtain rfl : k = N := by omega
      go_wp2_with (fail)
      go_ret
      exact ⟨_, rfl, HO.out, HB.out⟩
end
theorem infoPg : (Try.prog.info? 42).map (fun i => (i.zero, i.size, i.bytes)) = some (some (.agg #[.int .i64 0, .int .i64 0]), 2, 16) := by kernel_rfl
theorem make_pgs (T : Nat) (hT : T ≤ 1024) : ∃ Z : Array Value, (∀ i, i < T * 2 → Z[i]? = some (pgV (fun _ => (0, 0)) i)) ∧
    ∀ W, (Instr.makeSlice 29 (.int .i64 (T : Int)) (.int .i64 (T : Int))).run Try.prog W = .ok (.slice (some ⟨W.heap.size, 0, none⟩) T T) (W.alloc (.cells Z 42)) := by
  obtain ⟨i0, hi, hz0, hz1, hz2⟩ := info_parts infoPg
  refine ⟨madeCells #[Value.int .i64 0, .int .i64 0] (T * 2), fun i hi => ?_, fun W => ?_⟩
  · have h := made_at #[Value.int .i64 0, .int .i64 0] (T * 2) i hi
    rw [Array.getElem?_toList] at h
    rw [h]
    have h2 : i % 2 = 0 ∨ i % 2 = 1 := by omega
    unfold pgV
    rcases h2 with e | e
    · rw [if_pos e]
      show some ((#[Value.int .i64 0, .int .i64 0] : Array Value)[i % 2]!) = _
      rw [e]
      rfl
    · rw [if_neg (by omega)]
      show some ((#[Value.int .i64 0, .int .i64 0] : Array Value)[i % 2]!) = _
      rw [e]
      rfl
  · have h := run_make (P := Try.prog) W 29 42 i0 _ Try.underlying29 hi hz0 .i64 .i64 T T (by omega) (by omega) (by rw [hz2]; omega) (by omega)
    rw [hz1] at h
    simp only [Int.toNat_natCast] at h
    exact h
/-- What New leaves. -/
def NewM (w : World) (N : Nat) (e : Ending) (w' : World) : Prop := ∃ rb lb, e = .returned (.pointer (some ⟨rb, 0, none⟩)) ∧ RefM w' rb lb N (fun _ => (0, 0)) ∧ w.heap.size ≤ rb ∧ w.heap.size ≤ lb ∧ Below w.heap.size w w'
theorem newM_of (w : World) (N : Nat) (Z : Array Value) (hZ : ∀ i, i < N * 2 → Z[i]? = some (pgV (fun _ => (0, 0)) i)) :
    NewM w N (.returned (.pointer (some ⟨w.heap.size + 1, 0, none⟩))) ((w.alloc (.cells Z 42)).alloc (.cells #[.slice (some ⟨w.heap.size, 0, none⟩) N N] 31)) := by
  refine ⟨w.heap.size + 1, w.heap.size, rfl, ⟨⟨N, ?_⟩, (RowAt.new w Z _ _ _ hZ).alloc _, by omega⟩, by omega, Nat.le_refl _, ((Below.refl _ _).alloc (Nat.le_refl _) _).alloc (by simp) _⟩
  have h := RowAt.new (w.alloc (.cells Z 42)) #[.slice (some ⟨w.heap.size, 0, none⟩) N N] 31 1 (fun _ => .slice (some ⟨w.heap.size, 0, none⟩) N N) (fun i hi => by
    obtain rfl : i = 0 := by omega
    rfl)
  rw [World.size_alloc] at h
  exact h.cell 0 (by decide)
set_option maxRecDepth 100000 in
set_option maxHeartbeats 2000000 in
theorem rnew_any (w : World) (n : Int) : Calls Try.prog 10 #[.int .i64 n] w (NewM w (capN n)) := by
  by_cases h0 : n < 0
  · rw [show capN n = 0 from if_pos h0]
    obtain ⟨Z, hZ, hm⟩ := make_pgs 0 (by decide)
    have HN := Lib.hid (newM_of w 0 Z hZ)
    have hm : ∀ W, (Instr.makeSlice 29 (.int .i64 0) (.int .i64 0)).run Try.prog W = .ok (.slice (some ⟨W.heap.size, 0, none⟩) 0 0) (W.alloc (.cells Z 42)) := hm
    clear hZ
    go_enter Try.func10, Try.ntmps10
    go_wp2_with (fail)
    go_ret
    exact HN.out
  · by_cases h1 : 1024 < n
    · rw [show capN n = 1024 from by unfold capN; rw [if_neg h0, if_pos h1]]
      obtain ⟨Z, hZ, hm⟩ := make_pgs 1024 (by decide)
      have HN := Lib.hid (newM_of w 1024 Z hZ)
      have hm : ∀ W, (Instr.makeSlice 29 (.int .i64 1024) (.int .i64 1024)).run Try.prog W = .ok (.slice (some ⟨W.heap.size, 0, none⟩) 1024 1024) (W.alloc (.cells Z 42)) := hm
      clear hZ
      go_enter Try.func10, Try.ntmps10
      go_wp2_with (fail)
      go_ret
      exact HN.out
    · obtain ⟨N, rfl⟩ : ∃ N : Nat, n = N := ⟨n.toNat, by omega⟩
      rw [show capN (N : Int) = N from by unfold capN; rw [if_neg h0, if_neg h1, Int.toNat_natCast]]
      obtain ⟨Z, hZ, hm⟩ := make_pgs N (by omega)
      have HN := Lib.hid (newM_of w N Z hZ)
      clear hZ
      go_enter Try.func10, Try.ntmps10
      go_wp2_with (fail)
      go_ret
      exact HN.out
end Go.Proofs.Ytenfeamohcclaaa
