/-
  All: the closure, as an iterator: it tells the numbers that are in, rising, whatever the body does that leaves the set alone.
-/
import Derived.Test.YtkecmoljaopgbaaDoorOwn
import Derived.RangeFuncNested
import Derived.RangeFuncBound
import Derived.RangeFuncCalls
import Derived.RangeFuncLeaves
import Derived.RangeFuncFrom
import Derived.Shelf.Abstract
import Derived.Shelf.RegionOpen
import Derived.OwnWalkIn
import Derived.TacticsInMore
import Derived.LoopNIn
import Derived.LoopIn
namespace Go.Proofs.YtkecmoljaopgbaaDoor
open Go.RowKit Go.Shelf Go Bm
attribute [local go_sem] Oper.semAt_some

theorem all_any (s : Option Addr) (w : World) :
    Calls Tryd.prog 22 #[.pointer s] w fun e w' => e = .returned (.func (.func 29) #[] #[.pointer (some ⟨w.heap.size, 0, none⟩)]) ∧ w' = w.alloc (.cells #[.pointer s] 24) := by
  go_enter Tryd.func22, Tryd.ntmps22
  go_wp2
  go_ret
  exact ⟨rfl, rfl⟩

set_option maxHeartbeats 1000000 in
theorem all_in (m : Nat) (hm : 1 ≤ m) (l Bn : Nat) (Kp : World → World → Prop) (hKt : ∀ {A B C : World}, Kp A B → Kp B C → Kp A C) (s : Option Addr) (g : Nat → Bool) (n : Nat) (hn : n ≤ 65536) (J Jx : List Nat → World → Prop) (w0 : World)
    (hY : ∀ pre (x : Nat) W, x < n → J pre W → pre.length < n → YieldAt Fence.wide (m - 1) Tryd.prog l #[.int .i64 (x : Nat)] W fun e W' =>
      (e = .returned (.bool true) ∧ J (pre ++ [x]) W' ∧ Kp W W') ∨ (e = .returned (.bool false) ∧ Jx (pre ++ [x]) W'))
    (hN : ∀ (W : World), Kp w0 W → ∀ i : Int, Calls Tryd.prog 16 #[.pointer s, .int .i64 i] W fun e W' => e = fnd (findN g i.toNat n) ∧ W = W')
    (W : World) (hB : Kp w0 W) (hc : ∀ W, Kp w0 W → W.cell? ⟨Bn, 0, none⟩ = some (.pointer s)) (h0 : J [] W) :
    CallsIn Fence.wide m Tryd.prog 29 #[.func (.yield l) #[] #[], .pointer (some ⟨Bn, 0, none⟩)] W fun e W' => (∃ v, e = .returned v) ∧
      ((∃ ys, ys = elemsTo g n ∧ J ys W') ∨ (∃ pre, pre <+: elemsTo g n ∧ Jx pre W')) := by
  have HC := Lib.hid hc
  have HN := Lib.hid hN
  have HY := Lib.hid hY
  clear hc hN hY
  refine callsIn_of_wp Tryd.func29 rfl trivial ?_ rfl
  simp only [Tryd.ntmps29, List.size_toArray, List.length_cons, List.length_nil, Nat.reduceAdd, Nat.reduceSub, Array.replicate_succ, Array.replicate_zero, List.push_toArray, List.append_toArray, List.nil_append, List.cons_append]
  have h1 := HC.out W hB
  gi_wp2_with (fail)
  refine ⟨trivial, (callsIn_wide.2 (HN.out W hB 0)).mono ?_⟩
  rintro e w' ⟨rfl, rfl⟩
  rw [fnd_eq]
  clear h1
  generalize hi0 : ixI (findN g 0 n) = i0
  generalize hb0 : ixB (findN g 0 n) = b0
  have HI := Lib.hid hi0
  have HB := Lib.hid hb0
  clear hi0 hb0
  gi_wp2_with (fail)
  gi_loopw [3, 4] (fun x y wr => ∃ a : Nat, a ≤ n ∧ x = .int .i64 (ixI (findN g a n)) ∧ y = .bool (ixB (findN g a n)) ∧ J (elemsTo g a) wr ∧ Kp w0 wr)
    (fun x y _ => match y with | .bool true => n + 1 - (intOf x).toNat | _ => 0)
  case atStart => exact ⟨0, Nat.zero_le _, by rw [HI.out], by rw [HB.out], h0, hB⟩
  case round =>
    obtain ⟨a, ha, rfl, rfl, hJ, hb⟩ := hrel
    cases ho : findN g a n with
    | none =>
      have HE := Lib.hid (elemsTo_none ha ho)
      clear ho
      simp only [ixI_none, ixB_none]
      gi_wp2_with (fail)
      go_end0
      exact ⟨⟨_, rfl⟩, .inl ⟨elemsTo g a, HE.out.symm, hJ⟩⟩
    | some j =>
      obtain ⟨j1, j2, _, _⟩ := of_findN_some ho
      have HE := Lib.hid (elemsTo_some ho)
      have hpre := elemsTo_prefix g (show j + 1 ≤ n from j2)
      have HP := Lib.hid hpre
      clear ho hpre
      simp only [ixI_some, ixB_some]
      have hlen : (elemsTo g a).length < n := Nat.lt_of_le_of_lt (elemsTo_length g a) (by omega)
      obtain ⟨fn, tmps, assign, body, hy, hR⟩ := HY.out (elemsTo g a) j wr j2 hJ hlen
      gi_wp2_with (fail)
      refine hR.mono ?_
      rintro e W3 (⟨rfl, hJ3, hk3⟩ | ⟨rfl, hJx3⟩)
      · have hb3 := hKt hb hk3
        have h1 := HC.out W3 hb3
        clear hy hR
        gi_wp2_with (fail)
        refine ⟨trivial, (callsIn_wide.2 (HN.out W3 hb3 (j + 1))).mono ?_⟩
        rintro e w' ⟨rfl, rfl⟩
        rw [fnd_eq, show ((j : Int) + 1).toNat = j + 1 from by omega]
        cases hq : findN g (j + 1) n with
        | none =>
          have HQ := Lib.hid hq
          clear hq
          simp only [ixI_none, ixB_none]
          gi_wp2_with (fail)
          go_roundw
          case rel => exact ⟨j + 1, j2, by rw [HQ.out]; rfl, by rw [HQ.out]; rfl, by rw [HE.out]; exact hJ3, hb3⟩
          case measure => simp [intOf]; omega
        | some q =>
          obtain ⟨q1, q2, _, _⟩ := of_findN_some hq
          have HQ := Lib.hid hq
          clear hq
          simp only [ixI_some, ixB_some]
          gi_wp2_with (fail)
          go_roundw
          case rel => exact ⟨j + 1, j2, by rw [HQ.out]; rfl, by rw [HQ.out]; rfl, by rw [HE.out]; exact hJ3, hb3⟩
          case measure => simp [intOf]; omega
      · clear hy hR
        gi_wp2_with (fail)
        refine bodyPost_ret (results_none rfl _ _ _) rfl ?_
        exact ⟨⟨_, rfl⟩, .inr ⟨elemsTo g a ++ [j], by rw [← HE.out]; exact HP.out, hJx3⟩⟩

/-- All, as an iterator over whatever has this Next: what it tells are numbers below n. -/
theorem all_stops (m : Nat) (hm : 1 ≤ m) (Bn : Nat) (Kp : World → World → Prop) (hKt : ∀ {A B C : World}, Kp A B → Kp B C → Kp A C) (s : Option Addr) (g : Nat → Bool) (n : Nat) (hn : n ≤ 65536) (w : World) (hKw : ∀ W, Below w.heap.size w W → Kp w W)
    (hN : ∀ (W : World), Kp w W → ∀ i : Int, Calls Tryd.prog 16 #[.pointer s, .int .i64 i] W fun e W' => e = fnd (findN g i.toNat n) ∧ W = W')
    (hBn : ∀ W, Kp w W → W.cell? ⟨Bn, 0, none⟩ = some (.pointer s)) :
    SeqStopsK Fence.wide m Tryd.prog 29 #[.pointer (some ⟨Bn, 0, none⟩)] (fun x : Fin n => #[.int .i64 (x.val : Nat)]) Kp (fun xs => xs.map Fin.val = elemsTo g n) (fun pre => pre.map Fin.val <+: elemsTo g n) n w := by
  intro l J Jx W hW _ _ hY hJ
  have hb : Kp w W := hKw W hW
  refine (all_in m hm l Bn Kp hKt s g n hn (fun l W => ∃ l' : List (Fin n), l'.map Fin.val = l ∧ J l' W) (fun l W => ∃ l' : List (Fin n), l'.map Fin.val = l ∧ Jx l' W) w ?_ hN W hb hBn ⟨[], rfl, hJ⟩).mono ?_
  · rintro pre x W hx ⟨pre', rfl, hp⟩ hl
    obtain ⟨fn, tmps, assign, body, hy, hR⟩ := hY pre' ⟨x, hx⟩ W hp (by simpa using hl)
    refine ⟨fn, tmps, assign, body, hy, hR.mono ?_⟩
    rintro e W' (⟨rfl, h1, h2⟩ | ⟨rfl, h1⟩)
    · exact .inl ⟨rfl, ⟨pre' ++ [⟨x, hx⟩], by simp, h1⟩, h2⟩
    · exact .inr ⟨rfl, ⟨pre' ++ [⟨x, hx⟩], by simp, h1⟩⟩
  · rintro e W' ⟨h1, ⟨ys, e1, l', e2, e3⟩ | ⟨pre, e1, l', e2, e3⟩⟩
    · exact ⟨h1, .inl ⟨l', e2.trans e1, e3⟩⟩
    · exact ⟨h1, .inr ⟨l', (show List.map Fin.val l' <+: elemsTo g n by rw [e2]; exact e1), e3⟩⟩

/-- A range over All of what has none: its body is never come to. -/
theorem range_none (m : Nat) (hm : 3 ≤ m) (Bn : Nat) (s : Option Addr) {g : Operand} {ps : Array Tmp} {assign body : Code} {Q : Exit → Act → World → Prop} {a : Act} {w : World}
    (hg : a.eval g = .func (.func 29) #[] #[.pointer (some ⟨Bn, 0, none⟩)]) (hBn : w.cell? ⟨Bn, 0, none⟩ = some (.pointer s))
    (hN : ∀ (W : World), Below w.heap.size w W → ∀ i : Int, Calls Tryd.prog 16 #[.pointer s, .int .i64 i] W fun e W' => e = fnd none ∧ W = W')
    (hdone : ∀ (D : Nat) (W : World), w.heap.size ≤ D → Below w.heap.size w W → W.heap[D]? = some (.deferred (some [])) → Q .normal { a with defers := { target := .collected D, args := #[] } :: a.defers } W) :
    (Code.rangeFunc g ps assign body).wpIn Fence.wide m Tryd.prog Q a w := by
  have h1 : 1 ≤ m := by omega
  have hlt : Bn < w.heap.size := World.block_lt_of_cell? w ⟨Bn, 0, none⟩ hBn
  have hseq : SeqStopsK Fence.wide (m - 1) Tryd.prog 29 #[.pointer (some ⟨Bn, 0, none⟩)] (fun x : Empty => (nomatch x : Array Value)) (Below w.heap.size) (fun xs => xs = []) (fun _ => False) 0 w := by
    intro l J Jx W hW _ _ hY hJ
    refine (all_in (m - 1) (by omega) l Bn (Below w.heap.size) belowK_t s noneF 0 (by decide) (fun pre W => pre = [] ∧ J [] W) (fun _ _ => False) w (fun pre x W hx _ _ => absurd hx (Nat.not_lt_zero _))
      (fun W hb i => by rw [findN_none fun x p q => absurd q (Nat.not_lt_zero _)]; exact hN W hb i) W hW (fun W h => by rw [h.cell (p := ⟨Bn, 0, none⟩) hlt]; exact hBn) ⟨rfl, hJ⟩).mono ?_
    rintro e W' ⟨h1, ⟨ys, rfl, _, h3⟩ | ⟨_, _, h⟩⟩
    · exact ⟨h1, .inl ⟨[], rfl, h3⟩⟩
    · exact h.elim
  refine wpIn_rangeFunc_ownF rfl h1 (gf := 29) hg trivial (enters_of Tryd.func29 (by kernel_rfl) rfl) hseq belowK_t (belowK_b (Nat.le_refl _)) (Below.refl _ _) (fun x => nomatch x)
    (fun _ W => Below w.heap.size w W) (fun _ _ _ => False) (ownFrom_below (Nat.le_refl _) (Nat.le_refl _)) (fun _ _ _ _ _ hs _ _ => hs) (Below.refl _ _) (fun x => nomatch x)
    (fun _ x => nomatch x) (fun _ _ x => nomatch x) (fun D xs W hD _ hI hK => hdone D W hD hI hK) (fun _ _ _ _ _ _ h => h.elim)

/-- A range over All whose body breaks off at once. -/
theorem range_break (m : Nat) (hm : 3 ≤ m) (Bn id b : Nat) (s : Option Addr) (f : Nat → Bool) (n : Nat) (hn : n ≤ 65536) {g : Operand} {t : Tmp} {Q0 : Exit → Act → World → Prop} {a : Act} {w : World} (hb : b ≠ id)
    (hg : a.eval g = .func (.func 29) #[] #[.pointer (some ⟨Bn, 0, none⟩)]) (hBn : w.cell? ⟨Bn, 0, none⟩ = some (.pointer s))
    (hN : ∀ (W : World), Below w.heap.size w W → ∀ i : Int, Calls Tryd.prog 16 #[.pointer s, .int .i64 i] W fun e W' => e = fnd (findN f i.toNat n) ∧ W = W')
    (hdone : ∀ (D : Nat) (W : World), w.heap.size ≤ D → Below w.heap.size w W → W.heap[D]? = some (.deferred (some [])) → Q0 .normal { a with defers := { target := .collected D, args := #[] } :: a.defers } W) :
    (Code.rangeFunc g #[t] Code.skip (Code.block b (Code.exit id))).wpIn Fence.wide m Tryd.prog (Exit.inBlock id Q0) a w := by
  have h1 : 1 ≤ m := by omega
  have hlt : Bn < w.heap.size := World.block_lt_of_cell? w ⟨Bn, 0, none⟩ hBn
  have hseq := all_stops (m - 1) (by omega) Bn (Below w.heap.size) belowK_t s f n hn w (fun W h => h) hN (fun W h => by rw [h.cell (p := ⟨Bn, 0, none⟩) hlt]; exact hBn)
  refine wpIn_rangeFunc_ownF rfl h1 (gf := 29) hg trivial (enters_of Tryd.func29 (by kernel_rfl) rfl) hseq belowK_t (belowK_b (Nat.le_refl _)) (Below.refl _ _) (fun x => rfl)
    (fun _ W => Below w.heap.size w W) (fun c _ W => c = Code.exit id ∧ Below w.heap.size w W) (ownFrom_below (Nat.le_refl _) (Nat.le_refl _)) (fun c => OwnFrom.and (ownFrom_pure _ _) (ownFrom_below (Nat.le_refl _) (Nat.le_refl _))) (Below.refl _ _)
    (fun x => { tmps := a.tmps.setIfInBounds t (.int .i64 (x.val : Nat)), defers := [] }) ?assign ?body (fun D xs W hD _ hI hK => hdone D W hD hI hK) ?stop
  case assign =>
    intro l x W K hK
    refine wpIn_skip ?_
    simpa [Exit.then] using hK
  case body =>
    intro l pre x W hI _
    refine wpIn_block ?_
    refine wpIn_exit ?_
    simp only [Exit.inBlock, if_neg (Ne.symm hb)]
    exact ⟨KeepsOthers.refl _, rfl, hI⟩
  case stop =>
    rintro D c pre W hD _ ⟨rfl, hI⟩ hK
    refine wpIn_exit ?_
    simp only [Exit.inBlock, if_true]
    exact hdone D W hD hI hK

/-- All blocks below n₀ but the one lie as they lay. -/
structure Bar (C n₀ : Nat) (w w' : World) : Prop where
  os : w'.os = w.os
  tape : w'.tape = w.tape
  output : w'.output = w.output
  size : w.heap.size ≤ w'.heap.size
  block : ∀ k, k < n₀ → k ≠ C → w'.heap[k]? = w.heap[k]?
theorem Bar.refl (C n₀ : Nat) (w : World) : Bar C n₀ w w := ⟨rfl, rfl, rfl, Nat.le_refl _, fun _ _ _ => rfl⟩
theorem bar_trans {C n₀ : Nat} {a b c : World} (h : Bar C n₀ a b) (k : Bar C n₀ b c) : Bar C n₀ a c :=
  ⟨k.os.trans h.os, k.tape.trans h.tape, k.output.trans h.output, Nat.le_trans h.size k.size, fun i hi hc => (k.block i hi hc).trans (h.block i hi hc)⟩
theorem bar_of_below {C n₀ B : Nat} {w w' : World} (h : Below B w w') (hB : n₀ ≤ B) : Bar C n₀ w w' := ⟨h.os, h.tape, h.output, h.size, fun k hk _ => h.block k (by omega)⟩
theorem below_of_bar {C n₀ B : Nat} {w w' : World} (h : Bar C n₀ w w') (hB : B ≤ C) (hn : B ≤ n₀) : Below B w w' := ⟨h.os, h.tape, h.output, h.size, fun k hk => h.block k (by omega) (by omega)⟩
theorem bar_grown {C n₀ : Nat} {w W W' : World} {row : Option Nat} (h : Bar C n₀ w W) (hn : n₀ ≤ w.heap.size) (hg : W.grownBy W' row) (hr : ∀ r, row = some r → n₀ ≤ r) : Bar C n₀ w W' :=
  bar_trans h ⟨hg.os, hg.tape, hg.output, hg.size, fun k hk _ => hg.block k (by have := h.size; omega) (fun e => by have := hr k e.symm; omega)⟩
theorem bar_setCell {C n₀ : Nat} (W : World) (o : Nat) (v : Value) : Bar C n₀ W (W.setCell ⟨C, o, none⟩ v) := ⟨rfl, rfl, rfl, by simp [World.setCell], fun k _ hc => Below.heap_setCell _ _ _ _ hc⟩
theorem bar_putObj {C n₀ : Nat} (W : World) (l : Nat) (o : Obj) (hl : n₀ ≤ l) : Bar C n₀ W (W.putObj l o) :=
  ⟨rfl, rfl, rfl, by simp [World.putObj], fun k hk _ => World.putObj_heap_other (by omega)⟩

theorem below_putObj {B : Nat} {w W : World} (h : Below B w W) (D : Nat) (o : Obj) (hD : B ≤ D) (hB : B ≤ W.heap.size) : Below B w (W.putObj D o) :=
  h.grown (grownBy_putObj' W D o) hB (fun k e => by cases e; exact hD)
theorem cell_putObj (W : World) (D : Nat) (o : Obj) (a : Addr) (h : a.block ≠ D) : (W.putObj D o).cell? a = W.cell? a := World.cell?_of_block (World.putObj_heap_other h)

/-- The end of a function that holds two ranges over functions: its one result lies in a cell. -/
theorem leaves_two {m : Nat} {fn : Func} {tmps : Array Value} {R : Ending → World → Prop} {W : World} {D D2 : Nat} (h1 : W.heap[D]? = some (.deferred (some []))) (h2 : W.heap[D2]? = some (.deferred (some []))) (hne : D ≠ D2)
    (h : LeavesInM Fence.wide m Tryd.prog fn tmps R [] .returning ((W.putObj D2 (.deferred none)).putObj D (.deferred none))) :
    bodyPostM Fence.wide m Tryd.prog fn R .ret { tmps := tmps, defers := [{ target := Target.collected D2, args := #[] }, { target := Target.collected D, args := #[] }] } W := by
  refine ⟨by simp, .inl ⟨D2, _, rfl, run_takeDeferred h2, ?_⟩⟩
  refine ⟨by simp, .inl ⟨D, _, rfl, run_takeDeferred ?_, h⟩⟩
  rw [World.putObj_heap_other hne]; exact h1
end Go.Proofs.YtkecmoljaopgbaaDoor
