/-
  Maps from ints to pointers, as finite functions; a store by its run, whatever the keys. Of no program.
-/
import Derived.Test.YtlimbcpghfddkaaFRange
import Derived.Test.YtlimbcpghfddkaaLexH
namespace Go.Proofs.Ytlimbcpghfddkaa
open Go.RowKit Go Go.Maps

/-- How a pointer to a block's beginning reads. -/
def ptrR (v : Value) : Option (MDat × List MemPlace) := match v with
  | .pointer none => some (.lit (.int .i64 (-1)), [])
  | .pointer (some ⟨b, 0, none⟩) => some (.lit (.int .i64 b), [])
  | _ => none
def ptrV (c : Option Nat) : Value := match c with
  | none => .pointer none
  | some b => .pointer (some ⟨b, 0, none⟩)
def elemPtr : Elem ptrR (Option Nat) :=
  ⟨fun c => match c with
    | none => .lit (.int .i64 (-1))
    | some b => .lit (.int .i64 b), ptrV, fun _ => True, fun c _ => ⟨[], by cases c <;> rfl⟩, fun u c ps h => by
    unfold ptrR at h
    split at h
    · cases c with
      | none => rfl
      | some b =>
        injection h with h
        injection h with h _
        injection h with h
        injection h with _ h
        omega
    · cases c with
      | none =>
        injection h with h
        injection h with h _
        injection h with h
        injection h with _ h
        omega
      | some b =>
        injection h with h
        injection h with h _
        injection h with h
        injection h with _ h
        have e := Int.ofNat_inj.1 h
        unfold ptrV
        rw [e]
    · cases h⟩
/-- Unlike numbers of a list are no more than it has. -/
theorem nodup_le : ∀ (l m : List Int), l.Nodup → (∀ x ∈ l, x ∈ m) → l.length ≤ m.length
  | [], _, _, _ => Nat.zero_le _
  | x :: r, m, hn, h => by
    obtain ⟨h1, h2⟩ := List.nodup_cons.1 hn
    have hx := h x List.mem_cons_self
    have ih := nodup_le r (m.erase x) h2 (fun y hy => (List.mem_erase_of_ne (fun e => h1 (by rw [← e]; exact hy))).2 (h y (List.mem_cons_of_mem _ hy)))
    have hl := List.length_erase_of_mem hx
    have hp := List.length_pos_of_mem hx
    rw [List.length_cons]
    omega
section
variable {P : Program} {k : TypeId} {R : Value → Option (MDat × List MemPlace)} {α : Type} {E : Elem R α} {w w' : World} {b : Nat} {f : Int → Option α}
theorem FMap.ext {g : Int → Option α} (h : FMap P k E w b f) (e : ∀ x, f x = g x) : FMap P k E w b g := by
  have : f = g := funext e
  rw [← this]
  exact h
theorem FMap.run_store (h : FMap P k E w b f) {t e : TypeId} (hk : P.underlying k = some (.int .i64)) (ht : P.underlying t = some (.map k e)) {x : Int} (hx : (Lit.int .i64 x).wf = true) (m : List Int) (hm : ∀ x, (f x).isSome = true → x ∈ m) (hmax : m.length < maxLen) (c : α) (hc : E.ok c) :
    ∃ w', (Instr.mapUpdate t (.map (some b)) (.int .i64 x) (E.v c)).run P w = .ok () w' ∧ FMap P k E w' b (fput f x c) ∧ Only (fun j => j = b) w w' := by
  obtain ⟨ps, hval⟩ := E.says c hc
  obtain ⟨w', hrun, r1, r2⟩ := IMap.storeN hk ht hx h (m := m.length) (fun l hn hl => nodup_le l m hn fun y hy => hm y (by have := (hl y).1 hy; simpa using this)) hmax hval
  rw [upd_map] at r1
  exact ⟨w', hrun, r1, r2⟩
theorem wp_store_fmap {Q : Exit → Act → World → Prop} {o : Oper} {a : Act} {K : Act → World → Prop} (m y v : Operand) (t : TypeId) (hop : o.op = Op.mapUpdate t m y v)
    (e : TypeId) (hk : P.underlying k = some (.int .i64)) (ht : P.underlying t = some (.map k e)) (hown : FMap P k E w b f)
    (hm : a.eval m = .map (some b)) (x : Int) (hy : a.eval y = .int .i64 x) (hx : (Lit.int .i64 x).wf = true) (l : List Int) (hn : ∀ x, (f x).isSome = true → x ∈ l) (hmax : l.length < maxLen)
    (c : α) (hv : a.eval v = E.v c) (hc : E.ok c)
    (hK : ∀ w', FMap P k E w' b (fput f x c) → Only (fun j => j = b) w w' → K (a.put o.dst undef) w') : o.wp P a w K Q := by
  obtain ⟨w', hrun, r1, r2⟩ := hown.run_store hk ht hx l hn hmax c hc
  unfold Oper.wp
  simp [execOp, hop, hm, hy, hv, hrun, Result.andThen]
  exact hK w' r1 r2
end
end Go.Proofs.Ytlimbcpghfddkaa
