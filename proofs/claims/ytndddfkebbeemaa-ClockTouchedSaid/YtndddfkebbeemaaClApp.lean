/-
  append(s, x) in a region that draws; and where it lies. Of no program.
-/
import Derived.Test.YtndddfkebbeemaaAppAt
import Derived.Test.YtndddfkebbeemaaLexApp
namespace Go.Proofs.Ytndddfkebbeemaa
open Go.RowKit Go

theorem wp_append_whr {P : Program} {Q : Exit → Act → World → Prop} (w : World) {o : Oper} {a : Act} {K : Act → World → Prop} (s x : Operand) (t : TypeId)
    (ho : o.op = .call { callee := .builtin .append, args := #[s, x], argTypes := #[t, t] })
    (base : Nat) (e : TypeId) (i : TypeInfo) (z : Value) (size bytes : Nat) (ht : P.underlying t = some (.slice e)) (hi : P.info? e = some i) (hz : i.zero = some z)
    (hsize : i.size = size) (hby : i.bytes = bytes) (hzs : z.cells.size = size) (hsz : 0 < size)
    (v : Value) (n : Nat) (xs : List Value) (us : Array Value) (hown : w.ownsRow base e size v n xs) (hbase : base ≤ w.heap.size) (hs : a.eval s = v) (hx : a.eval x = .slice (some ⟨w.heap.size, 0, none⟩) 1 1)
    (hus : us.size = size) (h1 : ∀ u ∈ us.toList, u.oneCell' = true) (hn : n ≤ 1000) (hb : bytes ≤ 1000)
    (h : ∀ v' w', w'.ownsRow base e size v' (n + 1) (xs ++ us.toList) → Only (fun k => v.ownBlock = some k) w w' → (v'.ownBlock = v.ownBlock ∨ ∀ k, v'.ownBlock = some k → w.heap.size ≤ k) → K (a.put o.dst v') w') :
    o.wp P a (w.alloc (.cells us e)) K Q := by
  have hadd : ∀ j, (⟨w.heap.size, 0, none⟩ : Addr).add j = ⟨w.heap.size, j, none⟩ := fun j => by unfold Addr.add; split <;> simp_all
  have hl : us.toList.length = 1 * size := by rw [Array.length_toList, hus, Nat.one_mul]
  have hnews : ∀ j u, us.toList[j]? = some u → (w.alloc (.cells us e)).cell? ((⟨w.heap.size, 0, none⟩ : Addr).add j) = some u := fun j u hj => by
    rw [hadd j, cell_of_row _ _ _ _ _ _ (heap_alloc_new w _)]
    simpa using hj
  have hown2 := hown.alloc (.cells us e)
  obtain ⟨v', w', hr, h2, h3, _⟩ := run_append_own (P := P) _ base t o.type e i z size bytes ht hi hz hsize hby hzs hsz v n xs hown2 ⟨w.heap.size, 0, none⟩ 1 1 us.toList hl hnews h1 (by unfold maxLen; omega) (Nat.le_trans (Nat.mul_le_mul (show n + 1 ≤ 1001 by omega) hb) (by decide)) (by simp; omega)
  have hwh := append_where (P := P) base t o.type e i z size bytes ht hi hz hsize hby v n xs hown2 ⟨w.heap.size, 0, none⟩ 1 us.toList hl hnews h1 hn hb hr
  unfold Oper.wp execOp
  simp only [ho, resolve, invoke, builtin, Sem.run_bind, Sem.run_pure, Result.andThen_ok, List.map_toArray, List.map_cons, List.map_nil, hs, hx, hr]
  refine h v' w' h2 ((Only.alloc _ w _).trans (Only.of_grown h3)) (hwh.imp id (fun h k hk => ?_))
  have := h k hk
  simp at this
  omega
end Go.Proofs.Ytndddfkebbeemaa
