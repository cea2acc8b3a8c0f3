/-
  append(nil, make([]T, m)...), and a slice of the call's own cut down to nothing. Of no program.
-/
import Derived.Test.YtagnipkannogoaaOwn
namespace Go.Proofs.Ytagnipkannogoaa
open Go.RowKit Go
open Go.Builtin in
theorem run_append_nil_zeros {P : Program} (w : World) (base : Nat) (t tn ty e : TypeId) (i : TypeInfo) (z : Value) (size bytes : Nat) (k kn : IntKind) (ht : P.underlying t = some (.slice e)) (htn : P.underlying tn = some (.int kn)) (hi : P.info? e = some i) (hz : i.zero = some z)
    (hsize : i.size = size) (hby : i.bytes = bytes) (hzs : z.cells.size = size) (hsz : 0 < size)
    (m : Nat) (hm : 0 < m) (hsmall : m ≤ 1048576) (hbytes : m * bytes ≤ 140737488355328) (hbase : base ≤ w.heap.size) :
    ∃ v' w', (Builtin.append_ #[t, tn] ty #[.slice none 0 0, .int k m]).run P w = .ok v' w' ∧ w'.ownsRow base e size v' m (Builtin.zeroCells z.cells m).toList ∧ Below w.heap.size w w' := by
  subst hsize
  subst hby
  obtain ⟨news, hnews⟩ : ∃ l, l = (Builtin.zeroCells z.cells m).toList := ⟨_, rfl⟩
  have hl : news.length = m * i.size := by rw [hnews, Array.length_toList, size_zeroCells, hzs]
  rw [← hnews]
  have hw : IntKind.i64.wrap (m : Int) = m := by rw [IntKind.wrap_i64]; omega
  have hneg : ¬ ((m : Int) < 0) := by omega
  have h48 : ¬ (281474976710656 < (m : Int) * (i.bytes : Int)) := by
    rw [← Int.natCast_mul]
    omega
  have h63' : ¬ (9223372036854775807 < (m : Int)) := by omega
  have hgs := growslice_fits (need := m) (old := 0) (by omega) hbytes
  have hr : (Builtin.append_ #[t, tn] ty #[.slice none 0 0, .int k m]).run P w =
      .ok (.slice (some ⟨w.heap.size, 0, none⟩) m (grownCap w m 0 e)) (w.drew.alloc (.cells (news.toArray ++ Builtin.zeroCells z.cells (grownCap w m 0 e - m)) e)) := by
    have hms : ¬ m * i.size = 0 := Nat.mul_ne_zero (by omega) (by omega)
    have hgs' : ¬ (281474976710656 < Builtin.nextslicecap m 0 * i.bytes) := by omega
    have hm0 : ¬ m = 0 := by omega
    simp [Builtin.append_, run_underlying ht, run_underlying htn, sizeOf, typeInfo, zeroValue, hi, hz, asInt, asIntOf, hw, hneg, h48, hgs', h63', Question.forced, newRow, grownCap, hms, hm0, firstCells]
    rw [hnews]
  have hge := grownCap_ge w m 0 e
  have hcm2 : grownCap w m 0 e ≤ maxLen := grownCap_le_maxLen w m 0 e (by unfold maxLen; omega)
  refine ⟨_, _, hr, ⟨hl, .inr ⟨w.heap.size, _, _, rfl, hbase, heap_alloc_new w.drew _, hge, hcm2, ?_, ?_⟩⟩, ((Below.refl _ w).drew).alloc (Nat.le_refl _) _⟩
  · simp only [Array.size_append, List.size_toArray, size_zeroCells, hzs, hl, ← Nat.add_mul]
    congr 1
    omega
  · simp only [Array.toList_append]
    rw [← hl]
    exact List.take_left
theorem wpList_append_nil_zeros {P : Program} (w : World) {ops : Array Oper} {rest : List Oper} {o : Oper} {a : Act} {Q : Exit → Act → World → Prop} (hgd : o.guard = none) (s x : Operand) (t tn : TypeId)
    (ho : o.op = .call { callee := .builtin .append, args := #[s, x], argTypes := #[t, tn] })
    (base : Nat) (e : TypeId) (i : TypeInfo) (z : Value) (size bytes : Nat) (k kn : IntKind) (ht : P.underlying t = some (.slice e)) (htn : P.underlying tn = some (.int kn)) (hi : P.info? e = some i) (hz : i.zero = some z)
    (hsize : i.size = size) (hby : i.bytes = bytes) (hzs : z.cells.size = size) (hsz : 0 < size) (hs : a.eval s = .slice none 0 0)
    (m : Nat) (hx : a.eval x = .int k m) (hm : 0 < m) (hsmall : m ≤ 1048576) (hbytes : m * bytes ≤ 140737488355328) (hbase : base ≤ w.heap.size)
    (h : ∀ v' w', w'.ownsRow base e size v' m (Builtin.zeroCells z.cells m).toList → Below w.heap.size w w' → wpList P ops Q rest (a.put o.dst v') w') : wpList P ops Q (o :: rest) a w := by
  obtain ⟨v', w', hr, h2, h3⟩ := run_append_nil_zeros (P := P) w base t tn o.type e i z size bytes k kn ht htn hi hz hsize hby hzs hsz m hm hsmall hbytes hbase
  refine wpList_plain hgd fun _ hK => ?_
  unfold Oper.wp execOp
  simp only [ho, resolve, invoke, builtin, Sem.run_bind, Sem.run_pure, Result.andThen_ok, List.map_toArray, List.map_cons, List.map_nil, hs, hx, hr]
  exact hK _ _ (h v' w' h2 h3)
theorem run_sub_toN {P : Program} {t e : TypeId} {s : Nat} (ht : P.underlying t = some (.slice e)) (hs : ∀ w, (sizeOf e).run P w = .ok s w) (a : Option Addr) (len cap h : Nat) (hh : h ≤ cap) (W : World) :
    (Instr.sliceAt t (.slice a len cap) none (some (.int .i64 h)) none).run P W = .ok (.slice a h cap) W := by
  have he : P.elem t = e := by simp [Program.elem, ht]
  rw [run_sliceAt_slice W t _ _ _ _ (by rw [he]; exact ht), run_slice_h W t _ len cap (by rw [he]; exact ht) .i64 h (by omega) (by omega), he, hs]
  cases a with
  | none => simp [Result.andThen, sliced]
  | some v =>
    have e : v.add 0 = v := by unfold Addr.add; rw [if_pos rfl]
    simp [Result.andThen, sliced, e]
theorem run_sub_fromN {P : Program} {t e : TypeId} {s : Nat} (ht : P.underlying t = some (.slice e)) (hs : ∀ w, (sizeOf e).run P w = .ok s w) (a : Option Addr) (len cap l : Nat) (hl : l ≤ len) (W : World) :
    (Instr.sliceAt t (.slice a len cap) (some (.int .i64 l)) none none).run P W = .ok (.slice (if cap = l then a else a.map fun x => x.add (l * s)) (len - l) (cap - l)) W := by
  have he : P.elem t = e := by simp [Program.elem, ht]
  rw [run_sliceAt_slice W t _ _ _ _ (by rw [he]; exact ht), run_slice_l W t _ len cap (by rw [he]; exact ht) .i64 l (by omega) (by omega), he, hs]
  simp only [Result.andThen, sliced, Int.toNat_natCast]
theorem owns_cut {w : World} {base n c size : Nat} {e : TypeId} {a : Option Addr} {xs : List Value} (h : w.ownsRow base e size (.slice a n c) n xs) : w.ownsRow base e size (.slice a 0 c) 0 [] := by
  rcases h.2 with ⟨e1, hn⟩ | ⟨g, cap, cur, e1, hb, hg, h1, h2, h3, _⟩
  · injection e1 with e2 _ e3
    subst e2
    subst e3
    exact ⟨by simp, .inl ⟨rfl, rfl⟩⟩
  · injection e1 with e2 _ e3
    subst e2
    subst e3
    exact ⟨by simp, .inr ⟨g, c, cur, rfl, hb, hg, Nat.zero_le _, h2, h3, by simp⟩⟩
end Go.Proofs.Ytagnipkannogoaa
