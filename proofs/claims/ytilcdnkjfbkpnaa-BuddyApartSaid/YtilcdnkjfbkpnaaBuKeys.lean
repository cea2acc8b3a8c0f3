/-
  slices.Sorted(maps.Keys(m)) over a map from ints that holds what f says: its keys, rising; maps.Clone.
-/
import Derived.Test.YtilcdnkjfbkpnaaFRange
import Derived.Test.YtilcdnkjfbkpnaaShlf
namespace Go.Proofs.Ytilcdnkjfbkpnaa
open Go.RowKit Go Go.Maps Go.Sort Go.Shelf

theorem sortsF (m : Nat) : AnyZI.SortsIn Try.prog Try.sortedF_ren Fence.wide m :=
  ⟨fun blk off cap ss W hH hblk hsz => callsIn_wide.2 (AnyM.slices_Sort_int Try.sortF blk off cap ss W hH hblk hsz),
   fun p cap W => callsIn_wide.2 (AnyM.slices_Sort_int_none Try.sortF p cap W)⟩
/-- maps.Keys. -/
theorem keys_any (mb : Option Nat) (w : World) : Calls Try.prog 40 #[.map mb] w fun e w' =>
    e = .returned (.func (.func 47) #[] #[.pointer (some ⟨w.heap.size, 0, none⟩)]) ∧ w' = w.alloc (.cells #[.map mb] 45) :=
  (callsIn_wide (n := 5)).1 (AnyZI.keys_in Try.keysF Fence.wide 5 trivial rfl mb w)
section
variable {w : World} {b : Nat} {f : Int → Option Unit}
/-- slices.Sorted of it. -/
theorem sorted_any (hF : FMap Try.prog 3 elemUnit w b f) (B : Nat) (hB : w.cell? ⟨B, 0, none⟩ = some (.map (some b))) {m : Nat} (hm : ∀ x, (f x).isSome = true → 0 ≤ x ∧ x < m) (hmm : m ≤ 4096) :
    Calls Try.prog 39 #[.func (.func 47) #[] #[.pointer (some ⟨B, 0, none⟩)]] w fun e w' => ∃ (v : Value) (zs : List Int), e = .returned v ∧
      (∀ x, x ∈ zs ↔ (f x).isSome = true) ∧ zs.Pairwise (fun x y => x < y) ∧ w'.ownsRow w.heap.size 3 1 v zs.length (zs.map encZ) ∧ Below w.heap.size w w' := by
  obtain ⟨l, hln, hlm, hll⟩ := hF.count hm
  obtain ⟨D, l2, ho, h1, h2, hn2, hl2, hsz⟩ := hF
  have hlen : l2.length ≤ 4096 := Nat.le_trans (nodup_short m l2 hn2 fun x hx => hm x (by have := (hl2 x).1 hx; simpa using this)) hmm
  have hseq : SeqGives Fence.wide 2 Try.prog 47 #[.pointer (some ⟨B, 0, none⟩)] encZ (fun ss => ss.Perm (intKeys D)) (Maps.size D) w :=
    AnyZI.keys_gives (ρ := Try.keysF_ren) { Try.keysF with } Fence.wide _ trivial rfl (by omega) B b l2.length D _ (World.block_lt_of_cell? _ _ hB) hB ho
  have cS := AnyZI.sorted_in Try.sortedF Fence.wide 5 trivial trivial trivial trivial rfl (by omega) (sortsF _) (enters_of Try.func46 (by kernel_rfl) rfl) 47 #[.pointer (some ⟨B, 0, none⟩)] trivial (enters_of Try.func47 (by kernel_rfl) rfl) _ _ (by unfold maxLen; omega) (by omega) _ hseq
  refine ((callsIn_wide (n := 5)).1 cS).mono ?_
  rintro e w' ⟨v, ss, rfl, hS, hrow, _, hb⟩
  have hperm : (ss.mergeSort (fun x y => decide (x ≤ y))).Perm (intKeys D) := (List.mergeSort_perm _ _).trans hS
  have hD : l2.Perm (intKeys D) := by
    obtain ⟨es, rfl, hpw, _⟩ := ho.entries (Maps.int_keyed Try.underlying3)
    obtain ⟨es', hD', hko⟩ := ho.keysOf
    obtain rfl : es = es' := by simpa using hD'
    exact perm_intKeys hpw (fun p hp => by
      obtain ⟨v, hv⟩ := hko p hp
      obtain ⟨x, _, hx, _⟩ := Maps.keyOf_int_inv Try.underlying3 hv
      exact ⟨x, hx⟩) hn2 (fun x => by rw [hl2 x, h1 x])
  refine ⟨v, _, rfl, fun x => ?_, ?_, by rw [List.length_mergeSort]; exact hrow, hb⟩
  · rw [hperm.mem_iff, ← hD.mem_iff, hl2 x]
    simp
  · have hnd : (ss.mergeSort (fun x y => decide (x ≤ y))).Nodup := (hperm.trans hD.symm).nodup_iff.2 hn2
    have hp := List.pairwise_mergeSort (le := fun x y : Int => decide (x ≤ y)) (fun a b c h1 h2 => by simp at *; omega) (fun a b => by simp; omega) ss
    refine (hp.and hnd).imp (fun {x y} h => ?_)
    obtain ⟨h1, h2⟩ := h
    simp at h1
    omega
end
/-- maps.Clone. -/
theorem cloneF_any {w : World} {b : Nat} {f : Int → Option Unit} (hF : FMap Try.prog 3 elemUnit w b f) : Calls Try.prog 35 #[.map (some b)] w fun e w' =>
    e = .returned (.map (some w.heap.size)) ∧ FMap Try.prog 3 elemUnit w' w.heap.size f ∧ Below w.heap.size w w' := by
  obtain ⟨D, l, ho, q⟩ := hF
  refine (AnyW.maps_Clone_owns Try.cloneF _ _ b l.length D w ho).mono ?_
  rintro e w' ⟨rfl, h1, _, hb⟩
  exact ⟨rfl, ⟨D, l, h1, q⟩, hb⟩
theorem cloneT_any {w : World} {b : Nat} {f : Int → Option Int} (hF : FMap Try.prog 3 (elemInt (P := Try.prog) (e := 3) Try.underlying3) w b f) : Calls Try.prog 34 #[.map (some b)] w fun e w' =>
    e = .returned (.map (some w.heap.size)) ∧ FMap Try.prog 3 (elemInt (P := Try.prog) (e := 3) Try.underlying3) w' w.heap.size f ∧ Below w.heap.size w w' := by
  obtain ⟨D, l, ho, q⟩ := hF
  refine (AnyW.maps_Clone_owns Try.cloneT _ _ b l.length D w ho).mono ?_
  rintro e w' ⟨rfl, h1, _, hb⟩
  exact ⟨rfl, ⟨D, l, h1, q⟩, hb⟩
end Go.Proofs.Ytilcdnkjfbkpnaa
