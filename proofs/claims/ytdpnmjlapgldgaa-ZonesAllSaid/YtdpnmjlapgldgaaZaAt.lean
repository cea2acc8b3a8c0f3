/-
  ZonesAll: its world, and a look-up that stands behind an 'or'.
-/
import Derived.Test.YtdpnmjlapgldgaaZaPure
import Derived.Test.YtdpnmjlapgldgaaM07
import Derived.Test.YtdpnmjlapgldgaaM02
import Derived.Test.YtdpnmjlapgldgaaM01
namespace Go.Proofs.Ytdpnmjlapgldgaa
open Go.RowKit Go

section
variable {P : Program} {w : World} {ops : Array Oper} {rest : List Oper} {o : Oper} {a : Act} {Q : Exit → Act → World → Prop}
/-- 'v := m[x]', where it is asked for. -/
theorem wpList_look1_fmapG (hw : Region.wanted o (yielded ops a.tmps) = true) (m y : Operand) (t : TypeId) (hop : o.op = Op.lookup t m y false)
    (k e : TypeId) (hk : P.underlying k = some (.int .i64)) (ht : P.underlying t = some (.map k e)) {R : Value → Option (MDat × List MemPlace)} {α : Type} (E : Elem R α) (z : α) (hzo : E.ok z) (hz : (zeroValue e).run P w = .ok (E.v z) w) (b : Nat) (f : Int → Option α)
    (hm : a.eval m = .map (some b)) (hown : FMap P k E w b f) (x : Int) (hy : a.eval y = .int .i64 x) (hx : (Lit.int .i64 x).wf = true)
    (hK : wpList P ops Q rest (a.put o.dst (E.v ((f x).getD z))) w) :
    wpList P ops Q (o :: rest) a w := by
  refine wpList_step fun K' hK' => ?_
  rw [if_pos hw]
  obtain ⟨zp, hzd⟩ := E.says z hzo
  obtain ⟨D, l, ho, h1, h2, _⟩ := hown
  obtain ⟨v, ps, hrun, hv⟩ := ho.lookup (Maps.int_keyed hk) ht hz hzd (Maps.keyOf_int_mk hk hx)
  have e1 : D.atKey (.int .i64 x) (E.g z) = E.g ((f x).getD z) := by
    have h3 : Maps.has D (.int .i64 x) = ((f x).map E.g).isSome := h1 x
    have h4 : ∀ d, (f x).map E.g = some d → ∀ z, D.atKey (.int .i64 x) z = d := h2 x
    cases hf : f x with
    | none =>
      rw [hf] at h3
      rw [Maps.atKey_of_not_has h3]; rfl
    | some c => rw [h4 (E.g c) (by rw [hf]; rfl)]; rfl
  rw [e1] at hv
  rw [E.inv v _ ps hv] at hrun
  unfold Oper.wp
  simp [execOp, hop, hm, hy, hrun, Result.andThen]
  exact hK' _ _ hK
end
theorem IntsIn.next {w W : World} {a : Option Addr} {len : Nat} {z : Nat → Int} (h : IntsIn w a len z) (hb : Below w.heap.size w W) : IntsIn W a len z := fun i hi => by
  obtain ⟨b, o, e, hc, h1⟩ := h i hi
  exact ⟨b, o, e, by rw [hb.cell (World.block_lt_of_cell? _ _ hc)]; exact hc, h1⟩
/-- Whether a node is asked by the first j. -/
def askd (z : Nat → Int) (j i : Nat) : Bool := decide (∃ q, q < j ∧ z q = (i : Int))
theorem askd_iff {z : Nat → Int} {j : Nat} (i : Nat) : askd z j i = true ↔ ∃ q, q < j ∧ z q = (i : Int) := by
  unfold askd
  rw [decide_eq_true_iff]
theorem askd_zero (z : Nat → Int) (i : Nat) : askd z 0 i = false := by
  cases h : askd z 0 i with
  | false => rfl
  | true =>
    obtain ⟨q, hq, _⟩ := (askd_iff i).1 h
    exact absurd hq (Nat.not_lt_zero q)
theorem askd_succ {z : Nat → Int} {j x : Nat} (h : z j = (x : Int)) (i : Nat) : updV (fun i => .bool (askd z j i)) x (.bool true) i = .bool (askd z (j + 1) i) := by
  unfold updV
  by_cases e : i = x
  · subst e
    rw [if_pos rfl, (askd_iff i).2 ⟨j, Nat.lt_succ_self j, h⟩]
  · rw [if_neg e]
    show Value.bool (askd z j i) = Value.bool (askd z (j + 1) i)
    congr 1
    refine Bool.eq_iff_iff.2 ?_
    rw [askd_iff, askd_iff]
    constructor
    · rintro ⟨q, hq, h2⟩
      exact ⟨q, Nat.lt_succ_of_lt hq, h2⟩
    · rintro ⟨q, hq, h2⟩
      refine ⟨q, ?_, h2⟩
      by_cases e2 : q = j
      · subst e2
        omega
      · omega
theorem sumFree_mono {L : Nat → List (Int × Int)} {k N : Nat} (h : k ≤ N) : sumFree L k ≤ sumFree L N := by
  obtain ⟨d, rfl⟩ : ∃ d, N = k + d := ⟨N - k, by omega⟩
  clear h
  induction d with
  | zero => exact Nat.le_refl _
  | succ d ih => exact Nat.le_trans ih (Nat.le_add_right _ _)
theorem sumFree_bd {L : Nat → List (Int × Int)} : ∀ {k : Nat}, (∀ i, i < k → freeT (L i) ≤ 128) → sumFree L k ≤ 128 * k
  | 0, _ => Nat.le_refl _
  | k + 1, h => by
    unfold sumFree
    have h1 := sumFree_bd (k := k) (fun i hi => h i (by omega))
    have h2 := h k (by omega)
    omega
/-- Zones, and the map of what was taken. -/
structure AlAt (w : World) (Z : ZC) (g : Nat → Int) (L T : Nat → List (Int × Int)) (B mb : Nat) (mf : Int → Option Int) (W : World) : Prop where
  zs : ZsAt w Z g L T B W
  map : FMap Try.prog 3 EI W mb mf
  dom : ∀ f, (mf f).isSome = true ↔ frT g Z.N T f
  za : ZaI g Z.N L T
  mB : B ≤ mb
section
variable {w W W' : World} {Z : ZC} {g : Nat → Int} {L T L' T' : Nat → List (Int × Int)} {B mb : Nat} {mf : Int → Option Int}
theorem ZsAt.ends (H : ZsAt w Z g L T B W) (h : Below W.heap.size W W') : Below w.heap.size w W' := H.bel.trans (h.mono H.bel.size)
theorem ZsAt.za0 (H : ZsAt w Z g (fun i => newL (frN g i)) (fun _ => []) B W) : ZaI g Z.N (fun i => newL (frN g i)) (fun _ => []) :=
  ⟨H.zn.inv, fun _ _ _ hp => absurd hp (List.not_mem_nil), fun i hi => (H.zn.pos i hi).1⟩
theorem frT_none {g : Nat → Int} {N : Nat} (f : Int) : ¬ frT g N (fun _ => []) f := by
  rintro ⟨i, y, _, h, _⟩
  exact absurd h (List.not_mem_nil)
theorem AlAt.lim (H : AlAt w Z g L T B mb mf W) : ∀ f, (mf f).isSome = true → 0 ≤ f ∧ f < ((1025 : Nat) : Int) := fun f hf => by
  have h1 := H.za.at ((H.dom f).1 hf)
  have h2 := frL_length g Z.N H.za.pos
  have h3 := H.zs.zn.sum (Nat.le_refl Z.N)
  omega
end
end Go.Proofs.Ytdpnmjlapgldgaa
