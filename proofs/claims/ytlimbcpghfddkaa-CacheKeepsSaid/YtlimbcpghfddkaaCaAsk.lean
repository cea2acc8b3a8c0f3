/-
  cache: empty, partial; those; Frames, Empty of the landed one.
-/
import Derived.Test.YtlimbcpghfddkaaCaAt
import Derived.Test.YtlimbcpghfddkaaShlf
import Derived.Sort.OwnSortedInts
namespace Go.Proofs.Ytlimbcpghfddkaa
open Go.RowKit Go Go.Maps

section
variable {w W : World} {K : KC} {A : Ca}
/-- slices.Sort of numbers of the call's own. -/
theorem sort_any {base : Nat} {v : Value} {l : List Int} (h : w.ownsRow base 3 1 v l.length (intV l)) (hl : l.length ≤ 1000) :
    Calls Try.prog 59 #[v] w fun e w' => e = .returned (.tuple #[]) ∧ w'.ownsRow base 3 1 v l.length (intV (l.mergeSort fun x y => decide (x ≤ y))) ∧ Only (fun k => v.ownBlock = some k) w w' := by
  rcases h.2 with ⟨rfl, hz⟩ | ⟨g, cap, cur, rfl, hbase, hg, r1, r2, r3, r4⟩
  · have hs : l = [] := List.eq_nil_of_length_eq_zero hz
    subst hs
    refine (AnyM.slices_Sort_int_none Try.sortF none 0 w).mono ?_
    rintro e w' ⟨rfl, rfl⟩
    exact ⟨rfl, by rw [List.mergeSort_nil]; exact h, Only.refl _ _⟩
  · have hH : Go.Sort.Holds (Value.int .i64) w g 0 l.toArray := holds_of_blockI hg (by rw [Nat.mul_one] at r4; exact r4)
    have hgl : g < w.heap.size := (Array.getElem?_eq_some_iff.1 hg).1
    refine (AnyM.slices_Sort_int Try.sortF g 0 cap l w hH hgl (by omega)).mono ?_
    rintro e w' ⟨rfl, n, os, rfl⟩
    refine ⟨rfl, ownsRow_sortedI (by rw [List.length_mergeSort]) hbase hg r1 r2 r3, (Only.of_grown (grownBy_sortedI (os := os) (n := n) _)).mono (fun k hk => ?_)⟩
    injection hk with hk
    subst hk
    simp [Value.ownBlock]
/-- Rising numbers, sorted out of whatever order. -/
theorem sorted_eq {l m : List Int} (hn : l.Nodup) (hm : m.Pairwise fun x y => x < y) (h : ∀ x, x ∈ l ↔ x ∈ m) : l.mergeSort (fun x y => decide (x ≤ y)) = m := by
  have hmn : m.Nodup := hm.imp fun {x y} h e => by omega
  have hp : (l.mergeSort fun x y => decide (x ≤ y)).Perm m := (List.mergeSort_perm _ _).trans ((List.perm_ext_iff_of_nodup hn hmn).2 h)
  have h1 := List.pairwise_mergeSort (le := fun x y : Int => decide (x ≤ y)) (fun a b c h1 h2 => by simp at *; omega) (fun a b => by simp; omega) l
  refine hp.eq_of_pairwise (le := fun x y : Int => decide (x ≤ y) = true) (fun a b _ _ h1 h2 => by simp at h1 h2; omega) h1 (hm.imp fun {x y} h => by simp; omega)
theorem frsL_rise {f : Pl → Bool} {l : List Pl} (h : Rise l) : (frsL f l).Pairwise fun x y => x < y := by
  unfold frsL
  rw [List.pairwise_map]
  exact h.filter f
theorem mem_frsL {f : Pl → Bool} {l : List Pl} {x : Int} : x ∈ frsL f l ↔ ∃ p ∈ l, f p = true ∧ p.fr = x := by
  unfold frsL
  rw [List.mem_map]
  constructor
  · rintro ⟨p, hp, rfl⟩
    exact ⟨p, (List.mem_filter.1 hp).1, (List.mem_filter.1 hp).2, rfl⟩
  · rintro ⟨p, hp, hf, rfl⟩
    exact ⟨p, List.mem_filter.2 ⟨hp, hf⟩, rfl⟩
set_option maxRecDepth 100000 in
set_option maxHeartbeats 2000000 in
theorem kemptyB_any {C : SC} {S : Sl} (H : SlAt w C S) : Calls Try.prog 42 #[.pointer (some ⟨C.s, 0, none⟩)] w fun e w' => e = .returned (.bool ((S.ch.length : Int) == (S.n : Int))) ∧ Below w.heap.size w w' := by
  have HH := Lib.hid H
  have HF := Lib.hid (chain_ok.free H)
  have HC0 := Lib.hid (fun w1 (h : SlAt w1 C S) => chain_ok.count h)
  clear H
  generalize S.ch.length = n1 at *
  generalize S.n = n2 at *
  go_enter Try.func42, Try.ntmps42
  go_wp2_with (fail)
  refine HF.out.mono ?_
  rintro e w1 ⟨rfl, hb⟩
  have HB := Lib.hid hb
  have HC := Lib.hid (HC0.out w1 (chain_ok.later HH.out hb))
  clear hb HC0
  go_wp2_with (fail)
  refine HC.out.mono ?_
  rintro e w2 ⟨rfl, hb⟩
  have HB2 := Lib.hid (HB.out.trans (hb.mono HB.out.size))
  clear hb HC HB
  go_wp2_with (fail)
  go_ret
  exact ⟨rfl, HB2.out⟩
theorem beq_emp (p : Pl) : ((p.S.ch.length : Int) == (p.S.n : Int)) = p.emp := by
  unfold Pl.emp
  rw [Bool.eq_iff_iff, beq_iff_eq, decide_eq_true_iff]
  omega
/-- What a slab is asked. -/
def AskS (F : FuncId) (f : Pl → Bool) : Prop := ∀ (w : World) (C : SC) (p : Pl), SlAt w C p.S → Calls Try.prog F #[.pointer (some ⟨C.s, 0, none⟩)] w fun e w' => e = .returned (.bool (f p)) ∧ Below w.heap.size w w'
theorem ask_empty : AskS 42 Pl.emp := fun w C p H => by
  refine (kemptyB_any H).mono ?_
  rintro e w1 ⟨rfl, hb⟩
  exact ⟨by rw [beq_emp], hb⟩
set_option maxRecDepth 100000 in
set_option maxHeartbeats 2000000 in
theorem ask_partial : AskS 41 Pl.prt := fun w C p H => by
  have HH := Lib.hid H
  have HF := Lib.hid (chain_ok.free H)
  clear H
  by_cases h0 : 0 < p.S.ch.length
  · have hz : Pl.prt p = !p.emp := by
      unfold Pl.prt Pl.emp
      rw [decide_eq_true h0, Bool.true_and]
    rw [hz]
    have h0I : (0 : Int) < (p.S.ch.length : Int) := by omega
    have HE := Lib.hid (fun w1 (h : SlAt w1 C p.S) => ask_empty w1 C p h)
    clear hz h0
    generalize p.emp = em at *
    generalize p.S.ch.length = n1 at *
    go_enter Try.func41, Try.ntmps41
    go_wp2_with (fail)
    refine HF.out.mono ?_
    rintro e w1 ⟨rfl, hb⟩
    have HB := Lib.hid hb
    have HC := Lib.hid (HE.out w1 (chain_ok.later HH.out hb))
    clear hb HE HF
    go_wp2_with (fail)
    refine HC.out.mono ?_
    rintro e w2 ⟨rfl, hb⟩
    have HB2 := Lib.hid (HB.out.trans (hb.mono HB.out.size))
    clear hb HC HB
    go_wp2_with (fail)
    go_ret
    exact ⟨rfl, HB2.out⟩
  · have hz : Pl.prt p = false := by
      unfold Pl.prt
      rw [decide_eq_false h0, Bool.false_and]
    rw [hz]
    have e0 : p.S.ch.length = 0 := by omega
    rw [e0] at HF
    clear hz h0 e0
    go_enter Try.func41, Try.ntmps41
    go_wp2_with (fail)
    refine HF.out.mono ?_
    rintro e w1 ⟨rfl, hb⟩
    have HB := Lib.hid hb
    clear hb HF
    go_wp2_with (fail)
    go_ret
    exact ⟨rfl, HB.out⟩
set_option maxRecDepth 100000 in
set_option maxHeartbeats 2000000 in
theorem ask_all : AskS 54 Pl.all := fun w C p H => by
  have HB := Lib.hid (Below.refl w.heap.size w)
  clear H
  go_enter Try.func54, Try.ntmps54
  go_wp2_with (fail)
  go_ret
  exact ⟨rfl, HB.out⟩
/-- While slabs are asked. -/
structure ThAt (w : World) (K : KC) (A : Ca) (r : Nat) (f : Pl → Bool) (acc : List Int) (left : Int → Bool) (v : Value) (W : World) : Prop where
  at_ : CaAt W K A
  rng : FRange Try.prog 3 elemPtr W K.m r (mapS K.g A.L) left
  own : W.ownsRow (r + 1) 3 1 v acc.length (intV acc)
  bel : Below w.heap.size w W
  r1 : w.heap.size = r
  rl : r + 1 ≤ W.heap.size
  nd : acc.Nodup
  mem : ∀ x, x ∈ acc ↔ left x = false ∧ x ∈ frsL f A.L
section
variable {r : Nat} {f : Pl → Bool} {acc : List Int} {left : Int → Bool} {v : Value} {W' : World}
theorem ThAt.later (T : ThAt w K A r f acc left v W) (h : Below W.heap.size W W') : ThAt w K A r f acc left v W' :=
  ⟨T.at_.later h, (T.rng.later h).1, owns_later T.own h, T.bel.trans (h.mono T.bel.size), T.r1, Nat.le_trans T.rl h.size, T.nd, T.mem⟩
theorem ThAt.few (T : ThAt w K A r f acc left v W) : acc.length ≤ A.L.length := by
  refine Nat.le_trans (nodup_le acc (frsL f A.L) T.nd (fun x hx => ((T.mem x).1 hx).2)) (frsL_len f A.L)
/-- The next frame has come; its slab isn't so. -/
theorem ThAt.pass (T : ThAt w K A r f acc left v W) {x : Int} {left' : Int → Bool} (hr : FRange Try.prog 3 elemPtr W' K.m r (mapS K.g A.L) left') (ho : Only (fun k => k = r) W W') (e : left' = strike left x) (hlt : ∀ k, K.all A.L k → k < w.heap.size) (hx : x ∉ frsL f A.L) : ThAt w K A r f acc left' v W' := by
  have h1 := T.r1
  have h2 := T.rl
  refine ⟨T.at_.only ho (fun k hk e => by have := hlt k hk; omega), hr, owns_only T.own ho (fun k hk e => by have := (T.own.lt k hk).1; omega), ho.below T.bel T.bel.size (fun k hk => by omega), T.r1, Nat.le_trans T.rl ho.size, T.nd, fun y => ?_⟩
  subst e
  rw [T.mem y]
  unfold strike
  constructor
  · rintro ⟨h, h3⟩
    exact ⟨by rw [h]; rfl, h3⟩
  · rintro ⟨h, h3⟩
    refine ⟨?_, h3⟩
    by_cases e : y = x
    · subst e
      exact absurd h3 hx
    · simpa [e] using h
end
end
end Go.Proofs.Ytlimbcpghfddkaa
