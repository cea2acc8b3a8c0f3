/-
  copy of objects onto a row of the call's own. Of no program that has api.Object.
-/
import Derived.Test.YtagnipkannogoaaObjV
import Derived.Laws.CopyRow
namespace Go.Proofs.Ytagnipkannogoaa
open Go.RowKit Go
section
variable {P : Program}
theorem run_copy_rowS (w : World) (dT sT ty elem : TypeId) (s k g o dLen dCap : Nat) (a : Addr) (sLen sCap : Nat) (cur : Array Value) (t : TypeId) (cs : List Value)
    (hu : P.underlying dT = some (.slice elem)) (hs : (P.info? elem).map (·.size) = some s)
    (hg : w.heap[g]? = some (.cells cur t (0, 0))) (hk : Nat.min sLen dLen = k) (hn : cs.length = k * s)
    (hsrc : ∀ j v, cs[j]? = some v → w.cell? (a.add j) = some v) (hfit : o + cs.length ≤ cur.size) (h1 : ∀ v ∈ cs, v.oneCell' = true) :
    (Builtin.copy_ #[dT, sT] ty #[.slice (some ⟨g, o, none⟩) dLen dCap, .slice (some a) sLen sCap]).run P w =
      .ok (goInt k) (w.setRow g (cur.toList.take o ++ cs ++ cur.toList.drop (o + cs.length)).toArray) := by
  have hl := run_loadCells_list (P := P) w a cs hsrc
  have hst := run_storeCells_at P g o t cs 0 cur w hg (by simpa using hfit) h1
  cases hq : P.info? elem with
  | none => simp [hq] at hs
  | some i =>
    have hi : i.size = s := by simpa [hq] using hs
    rw [hn] at hl
    simp [Builtin.copy_, run_underlying hu, Builtin.lenOf, Builtin.firstCells, sizeOf, typeInfo, hq, hi, hk, hl, hst]
theorem run_copy_noneS (w : World) (dT sT ty elem : TypeId) (s : Nat) (d a : Option Addr) (dLen dCap sLen sCap : Nat) (hu : P.underlying dT = some (.slice elem)) (hs : (P.info? elem).map (·.size) = some s) (hn : Nat.min sLen dLen = 0) :
    (Builtin.copy_ #[dT, sT] ty #[.slice d dLen dCap, .slice a sLen sCap]).run P w = .ok (goInt 0) w := by
  cases hq : P.info? elem with
  | none => simp [hq] at hs
  | some i =>
    have hl : ∀ (x : Addr), (loadCells x 0).run P w = .ok #[] w := fun x => by simpa using run_loadCells_list (P := P) w x [] (by simp)
    cases d <;> cases a <;> simp [Builtin.copy_, run_underlying hu, Builtin.lenOf, Builtin.firstCells, sizeOf, typeInfo, hq, hn, storeCells, hl]
end
/-- copy(dst, src), as many as dst has. -/
theorem wpList_copy_objs {w : World} {ops : Array Oper} {rest : List Oper} {o : Oper} {a : Act} {Q : Exit → Act → World → Prop} (hgd : o.guard = none) (d s : Operand)
    (ho : o.op = .call { callee := .builtin .copy, args := #[d, s], argTypes := #[30, 30] })
    {base k : Nat} {u v : Value} {xs : List Value} {A : Obs} (hu : w.ownsRow base TO 2 u k xs) (hA : SrcO w v A) (hk : k ≤ A.length) (hd : a.eval d = u) (hs : a.eval s = v)
    (h : ∀ w', w'.ownsRow base TO 2 u k (recV encO (A.take k)) → Only (fun j => u.ownBlock = some j) w w' → wpList Try.prog ops Q rest (a.put o.dst (goInt k)) w') : wpList Try.prog ops Q (o :: rest) a w := by
  have hsz : (Try.prog.info? 38).map (·.size) = some 2 := by kernel_rfl
  obtain ⟨av, cv, rfl, hsrc⟩ := hA
  have hmin : Nat.min A.length k = k := Nat.min_eq_right hk
  have hlen : (A.take k).length = k := by rw [List.length_take]; omega
  refine wpList_plain hgd fun K hK => ?_
  by_cases h0 : k = 0
  · subst h0
    obtain ⟨ad, cd, rfl, _⟩ := owns_slice hu
    have hrun := run_copy_noneS (P := Try.prog) w 30 30 o.type 38 2 ad av 0 cd A.length cv Try.underlying30 hsz (by simp)
    unfold Oper.wp
    simp [execOp, ho, resolve, invoke, builtin, hd, hs, hrun, Result.andThen]
    refine hK _ _ (h w ?_ (Only.refl _ _))
    have hl : xs.length = 0 := by have := hu.1; omega
    obtain rfl : xs = [] := List.eq_nil_of_length_eq_zero hl
    simpa [recV] using hu
  · obtain ⟨ad, rfl, hsr⟩ := hsrc (by omega)
    obtain ⟨hl, ⟨e, hn⟩ | ⟨g, cap, cur, rfl, hb, hg, h1, h2, h3, h4⟩⟩ := hu
    · omega
    have hks : k * 2 ≤ cap * 2 := Nat.mul_le_mul_right _ h1
    have hcl : (recV encO (A.take k)).length = k * 2 := by rw [recV_len encO_len, hlen]
    have hsr2 : ∀ j u, (recV encO (A.take k))[j]? = some u → w.cell? (ad.add j) = some u := fun j u hj => by
      have hj2 := (List.getElem?_eq_some_iff.1 hj).1
      rw [← recV_take encO_len] at hj
      rw [hcl] at hj2
      rw [List.getElem?_take_of_lt hj2] at hj
      exact hsr j u hj
    have hrun := run_copy_rowS (P := Try.prog) w 30 30 o.type 38 2 k g 0 k cap ad A.length cv cur TO (recV encO (A.take k)) Try.underlying30 hsz hg hmin hcl hsr2 (by rw [hcl]; omega) (recV_one encO_one _)
    unfold Oper.wp
    simp [execOp, ho, resolve, invoke, builtin, hd, hs, hrun, Result.andThen]
    refine hK _ _ (h _ ⟨by rw [hcl], .inr ⟨g, cap, _, rfl, hb, setRow_heap w g cur _ TO _ hg, h1, h2, ?_, ?_⟩⟩ ((Only.setRow w g rfl _).mono (fun j hj => by rw [← hj]; rfl)))
    · simp [hcl]; omega
    · simp [hcl]
end Go.Proofs.Ytagnipkannogoaa
