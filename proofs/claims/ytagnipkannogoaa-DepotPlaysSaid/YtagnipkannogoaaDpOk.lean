/-
  What the laws of stage 11 want of the landed depot, whatever way it lies; and the same beside rows of the law's own.
-/
import Derived.Test.YtagnipkannogoaaFkRow
namespace Go.Proofs.Ytagnipkannogoaa
open Go.RowKit Go

/-- How many rounds. -/
def clN (n : Int) : Nat := (min (max n 1) 32).toNat
theorem clN_pos (n : Int) : 1 ≤ clN n ∧ clN n ≤ 32 := by unfold clN; omega
/-- Put. -/
def dpPut (N : Nat) (m : Obs) (F : List Obs) : Int × List Obs := if m.length = N then (if F.length < 64 then (0, F ++ [m]) else (9, F)) else (2, F)
/-- Get. -/
def dpGet (F : List Obs) : Bool × Obs × List Obs := if F.length = 0 then (false, [], F) else (true, F.getD (F.length - 1) [], F.take (F.length - 1))
/-- How many are drained. -/
def dpK (n : Int) (Q : Obs) : Nat := (min (max n 0) (Q.length : Int)).toNat
def dpAll (F : List Obs) (Q : Obs) : Obs := F.flatten ++ Q
structure DepOk (IsD : Thg → Nat → Nat → List Obs → Obs → Prop) : Prop where
  inv : ∀ {X d N F Q}, IsD X d N F Q → 1 ≤ N ∧ N ≤ 32 ∧ F.length ≤ 64 ∧ ∀ m ∈ F, m.length = N
  new : ∀ (n : Int) (w : World), Calls Try.prog 9 #[.int .i64 n] w fun e w' => ∃ d Y, e = .returned (.pointer (some ⟨d, 0, none⟩)) ∧ IsD Y d (clN n) [] [] ∧ TTurn w Thg.no w' Y
  rounds : ∀ {X d N F Q w}, IsD X d N F Q → X.At w → Calls Try.prog 11 #[.pointer (some ⟨d, 0, none⟩)] w fun e w' => e = .returned (.int .i64 N) ∧ Below w.heap.size w w'
  fulls : ∀ {X d N F Q w}, IsD X d N F Q → X.At w → Calls Try.prog 23 #[.pointer (some ⟨d, 0, none⟩)] w fun e w' => e = .returned (.int .i64 F.length) ∧ Below w.heap.size w w'
  queued : ∀ {X d N F Q w}, IsD X d N F Q → X.At w → Calls Try.prog 24 #[.pointer (some ⟨d, 0, none⟩)] w fun e w' => e = .returned (.int .i64 Q.length) ∧ Below w.heap.size w w'
  all : ∀ {X d N F Q w}, IsD X d N F Q → X.At w → Q.length ≤ 10000 → Calls Try.prog 21 #[.pointer (some ⟨d, 0, none⟩)] w (AllP w (dpAll F Q))
  put : ∀ {X d N F Q w v m}, IsD X d N F Q → X.At w → SrcO w v m → Calls Try.prog 12 #[.pointer (some ⟨d, 0, none⟩), v] w fun e w' => ∃ Y, e = .returned (.int .i64 (dpPut N m F).1) ∧ IsD Y d N (dpPut N m F).2 Q ∧ TTurn w X w' Y
  queue : ∀ {X d N F Q w} (x y : Int), IsD X d N F Q → X.At w → Q.length ≤ 10000 → Calls Try.prog 16 #[.pointer (some ⟨d, 0, none⟩), .agg #[.int .i64 x, .int .i64 y]] w fun e w' => ∃ Y, e = .returned (.tuple #[]) ∧ IsD Y d N F (Q ++ [(x, y)]) ∧ TTurn w X w' Y
  get : ∀ {X d N F Q w}, IsD X d N F Q → X.At w → Calls Try.prog 14 #[.pointer (some ⟨d, 0, none⟩)] w fun e w' => ∃ v Y, e = .returned (.tuple #[v, .bool (dpGet F).1]) ∧ IsD Y d N (dpGet F).2.2 Q ∧ TTurn w X w' Y ∧
    w'.ownsRow 0 TO 2 v (dpGet F).2.1.length (recV encO (dpGet F).2.1) ∧ ∀ k, v.ownBlock = some k → (X.has k ∨ w.heap.size ≤ k) ∧ ¬ Y.has k
  drain : ∀ {X d N F Q w} (n : Int), IsD X d N F Q → X.At w → Q.length ≤ 10000 → Calls Try.prog 17 #[.pointer (some ⟨d, 0, none⟩), .int .i64 n] w fun e w' => ∃ v Y, e = .returned v ∧ IsD Y d N F (Q.drop (dpK n Q)) ∧ TTurn w X w' Y ∧
    w'.ownsRow 0 TO 2 v (Q.take (dpK n Q)).length (recV encO (Q.take (dpK n Q))) ∧ ∀ k, v.ownBlock = some k → (X.has k ∨ w.heap.size ≤ k) ∧ ¬ Y.has k
  flush : ∀ {X d N F Q w}, IsD X d N F Q → X.At w → Q.length ≤ 10000 → Calls Try.prog 19 #[.pointer (some ⟨d, 0, none⟩)] w fun e w' => ∃ v Y, e = .returned v ∧ IsD Y d N [] [] ∧ TTurn w X w' Y ∧
    w'.ownsRow 0 TO 2 v (dpAll F Q).length (recV encO (dpAll F Q)) ∧ ∀ k, v.ownBlock = some k → (X.has k ∨ w.heap.size ≤ k) ∧ ¬ Y.has k
/-- A depot beside rows. -/
def DK (IsD : Thg → Nat → Nat → List Obs → Obs → Prop) (w0 : World) (d N : Nat) (F : List Obs) (Q : Obs) (l : List Rw) (w : World) : Prop := ∃ X, IsD X d N F Q ∧ FK w0 X l w
section
variable {IsD : Thg → Nat → Nat → List Obs → Obs → Prop} {w0 w w' : World} {d N : Nat} {F : List Obs} {Q m : Obs} {l l2 : List Rw} {r : Rw} {v : Value}
theorem DK.bel (h : DK IsD w0 d N F Q l w) : Below w0.heap.size w0 w := h.choose_spec.2.bel
theorem DK.le (h : DK IsD w0 d N F Q l w) : w0.heap.size ≤ w.heap.size := h.bel.size
theorem DK.inv (ok : DepOk IsD) (h : DK IsD w0 d N F Q l w) : 1 ≤ N ∧ N ≤ 32 ∧ F.length ≤ 64 ∧ ∀ m ∈ F, m.length = N := ok.inv h.choose_spec.1
theorem DK.later (h : DK IsD w0 d N F Q l w) (hb : Below w.heap.size w w') : DK IsD w0 d N F Q l w' := by
  obtain ⟨X, hX, h⟩ := h
  exact ⟨X, hX, h.later hb⟩
theorem DK.perm (h : DK IsD w0 d N F Q l w) (hp : l.Perm l2) : DK IsD w0 d N F Q l2 w := by
  obtain ⟨X, hX, h⟩ := h
  exact ⟨X, hX, h.perm hp⟩
theorem DK.swap {a b : Rw} (h : DK IsD w0 d N F Q (a :: b :: l) w) : DK IsD w0 d N F Q (b :: a :: l) w := h.perm (List.Perm.swap b a l)
theorem DK.drop (h : DK IsD w0 d N F Q (r :: l) w) : DK IsD w0 d N F Q l w := by
  obtain ⟨X, hX, h⟩ := h
  exact ⟨X, hX, h.drop⟩
theorem DK.fresh (h : DK IsD w0 d N F Q l w) (hb : Below w.heap.size w w') (hr : RwAt w' r) (hf : ∀ k, r.v.ownBlock = some k → w.heap.size ≤ k) : DK IsD w0 d N F Q (r :: l) w' := by
  obtain ⟨X, hX, h⟩ := h
  exact ⟨X, hX, h.fresh hb hr hf⟩
theorem DK.nilI (h : DK IsD w0 d N F Q l w) : DK IsD w0 d N F Q (rI (.slice none 0 0) [] :: l) w := by
  obtain ⟨X, hX, h⟩ := h
  exact ⟨X, hX, h.nilI⟩
theorem DK.nilO (h : DK IsD w0 d N F Q l w) : DK IsD w0 d N F Q (rO (.slice none 0 0) [] :: l) w := by
  obtain ⟨X, hX, h⟩ := h
  exact ⟨X, hX, h.nilO⟩
theorem DK.lenO {A : Obs} (h : DK IsD w0 d N F Q (rO v A :: l) w) : ∃ a c, v = .slice a A.length c := owns_lenS (h.choose_spec.2.row _ List.mem_cons_self)
theorem DK.lenI {I : List Int} (h : DK IsD w0 d N F Q (rI v I :: l) w) : ∃ a c, v = .slice a I.length c := owns_lenS (h.choose_spec.2.row _ List.mem_cons_self)
theorem DK.srcO {A : Obs} (h : DK IsD w0 d N F Q (rO v A :: l) w) : SrcO w v A := h.choose_spec.2.srcO
theorem DK.atO {A : Obs} (h : DK IsD w0 d N F Q (rO v A :: l) w) {k : Nat} (hk : k < A.length) : ∃ g c, v = .slice (some ⟨g, 0, none⟩) A.length c ∧ w.cell? ⟨g, k * 2, none⟩ = some (.int .i64 A[k].1) ∧ w.cell? ⟨g, k * 2 + 1, none⟩ = some (.int .i64 A[k].2) := h.choose_spec.2.atO hk
theorem new_dk (ok : DepOk IsD) (n : Int) (w : World) : Calls Try.prog 9 #[.int .i64 n] w fun e w' => ∃ d, e = .returned (.pointer (some ⟨d, 0, none⟩)) ∧ DK IsD w d (clN n) [] [] [] w' := by
  refine (ok.new n w).mono ?_
  rintro e w1 ⟨d, Y, rfl, hY, hT⟩
  refine ⟨d, rfl, Y, hY, hT.at', ⟨hT.only.os, hT.only.tape, hT.only.output, hT.only.size, fun k hk => hT.only.block k hk (fun h => h)⟩, fun k hk => (hT.new k hk).elim (fun h => h.elim) id, fun r hr => absurd hr List.not_mem_nil, List.Pairwise.nil, fun r hr => absurd hr List.not_mem_nil⟩
theorem rounds_dk (ok : DepOk IsD) (h : DK IsD w0 d N F Q l w) : Calls Try.prog 11 #[.pointer (some ⟨d, 0, none⟩)] w fun e w' => e = .returned (.int .i64 N) ∧ DK IsD w0 d N F Q l w' := by
  obtain ⟨X, hX, h⟩ := h
  exact (ok.rounds hX h.at').mono fun _ _ ⟨e, hb⟩ => ⟨e, X, hX, h.later hb⟩
theorem fulls_dk (ok : DepOk IsD) (h : DK IsD w0 d N F Q l w) : Calls Try.prog 23 #[.pointer (some ⟨d, 0, none⟩)] w fun e w' => e = .returned (.int .i64 F.length) ∧ DK IsD w0 d N F Q l w' := by
  obtain ⟨X, hX, h⟩ := h
  exact (ok.fulls hX h.at').mono fun _ _ ⟨e, hb⟩ => ⟨e, X, hX, h.later hb⟩
theorem queued_dk (ok : DepOk IsD) (h : DK IsD w0 d N F Q l w) : Calls Try.prog 24 #[.pointer (some ⟨d, 0, none⟩)] w fun e w' => e = .returned (.int .i64 Q.length) ∧ DK IsD w0 d N F Q l w' := by
  obtain ⟨X, hX, h⟩ := h
  exact (ok.queued hX h.at').mono fun _ _ ⟨e, hb⟩ => ⟨e, X, hX, h.later hb⟩
theorem all_dk (ok : DepOk IsD) (h : DK IsD w0 d N F Q l w) (hq : Q.length ≤ 10000) : Calls Try.prog 21 #[.pointer (some ⟨d, 0, none⟩)] w fun e w' => ∃ v, e = .returned v ∧ DK IsD w0 d N F Q (rO v (dpAll F Q) :: l) w' := by
  obtain ⟨X, hX, h⟩ := h
  refine (ok.all hX h.at' hq).mono ?_
  rintro e w1 ⟨v, rfl, hv, hb⟩
  exact ⟨v, rfl, X, hX, h.fresh hb (owns_base hv (fun _ _ => Nat.zero_le _)) (fun k hk => (hv.lt k hk).1)⟩
theorem put_dk (ok : DepOk IsD) (h : DK IsD w0 d N F Q l w) (hs : SrcO w v m) : Calls Try.prog 12 #[.pointer (some ⟨d, 0, none⟩), v] w fun e w' => e = .returned (.int .i64 (dpPut N m F).1) ∧ DK IsD w0 d N (dpPut N m F).2 Q l w' := by
  obtain ⟨X, hX, h⟩ := h
  refine (ok.put hX h.at' hs).mono ?_
  rintro e w1 ⟨Y, rfl, hY, hT⟩
  exact ⟨rfl, Y, hY, h.turn hT⟩
theorem queue_dk (ok : DepOk IsD) (h : DK IsD w0 d N F Q l w) (x y : Int) (hq : Q.length ≤ 10000) : Calls Try.prog 16 #[.pointer (some ⟨d, 0, none⟩), .agg #[.int .i64 x, .int .i64 y]] w fun e w' => e = .returned (.tuple #[]) ∧ DK IsD w0 d N F (Q ++ [(x, y)]) l w' := by
  obtain ⟨X, hX, h⟩ := h
  refine (ok.queue x y hX h.at' hq).mono ?_
  rintro e w1 ⟨Y, rfl, hY, hT⟩
  exact ⟨rfl, Y, hY, h.turn hT⟩
theorem get_dk (ok : DepOk IsD) (h : DK IsD w0 d N F Q l w) : Calls Try.prog 14 #[.pointer (some ⟨d, 0, none⟩)] w fun e w' => ∃ v, e = .returned (.tuple #[v, .bool (dpGet F).1]) ∧ DK IsD w0 d N (dpGet F).2.2 Q (rO v (dpGet F).2.1 :: l) w' := by
  obtain ⟨X, hX, h⟩ := h
  refine (ok.get hX h.at').mono ?_
  rintro e w1 ⟨v, Y, rfl, hY, hT, hv, hn⟩
  exact ⟨v, rfl, Y, hY, h.told hT hv hn⟩
theorem drain_dk (ok : DepOk IsD) (h : DK IsD w0 d N F Q l w) (n : Int) (hq : Q.length ≤ 10000) : Calls Try.prog 17 #[.pointer (some ⟨d, 0, none⟩), .int .i64 n] w fun e w' => ∃ v, e = .returned v ∧ DK IsD w0 d N F (Q.drop (dpK n Q)) (rO v (Q.take (dpK n Q)) :: l) w' := by
  obtain ⟨X, hX, h⟩ := h
  refine (ok.drain n hX h.at' hq).mono ?_
  rintro e w1 ⟨v, Y, rfl, hY, hT, hv, hn⟩
  exact ⟨v, rfl, Y, hY, h.told hT hv hn⟩
theorem flush_dk (ok : DepOk IsD) (h : DK IsD w0 d N F Q l w) (hq : Q.length ≤ 10000) : Calls Try.prog 19 #[.pointer (some ⟨d, 0, none⟩)] w fun e w' => ∃ v, e = .returned v ∧ DK IsD w0 d N [] [] (rO v (dpAll F Q) :: l) w' := by
  obtain ⟨X, hX, h⟩ := h
  refine (ok.flush hX h.at' hq).mono ?_
  rintro e w1 ⟨v, Y, rfl, hY, hT, hv, hn⟩
  exact ⟨v, rfl, Y, hY, h.told hT hv hn⟩
section
variable {ops : Array Oper} {rest : List Oper} {o : Oper} {a : Act} {Q' : Exit → Act → World → Prop}
theorem wpList_dkI (hgd : o.guard = none) (s x : Operand) (ho : o.op = .call { callee := .builtin .append, args := #[s, x], argTypes := #[46, 46] })
    {I : List Int} (h : DK IsD w0 d N F Q (rI v I :: l) w) (hn : I.length ≤ 100000) (y : Int) (hs : a.eval s = v) (hx : a.eval x = .slice (some ⟨w.heap.size, 0, none⟩) 1 1)
    (hK : ∀ v' w', DK IsD w0 d N F Q (rI v' (I ++ [y]) :: l) w' → wpList Try.prog ops Q' rest (a.put o.dst v') w') : wpList Try.prog ops Q' (o :: rest) a (w.alloc (.cells #[.int .i64 y] 3)) := by
  obtain ⟨X, hX, h⟩ := h
  exact wpList_fkI hgd s x ho h hn y hs hx (fun v' w' h2 => hK v' w' ⟨X, hX, h2⟩)
theorem wpList_dkO (hgd : o.guard = none) (s x : Operand) (ho : o.op = .call { callee := .builtin .append, args := #[s, x], argTypes := #[30, 30] })
    {A : Obs} (h : DK IsD w0 d N F Q (rO v A :: l) w) (hn : A.length ≤ 100000) (y1 y2 : Int) (hs : a.eval s = v) (hx : a.eval x = .slice (some ⟨w.heap.size, 0, none⟩) 1 1)
    (hK : ∀ v' w', DK IsD w0 d N F Q (rO v' (A ++ [(y1, y2)]) :: l) w' → wpList Try.prog ops Q' rest (a.put o.dst v') w') : wpList Try.prog ops Q' (o :: rest) a (w.alloc (.cells #[.int .i64 y1, .int .i64 y2] TO)) := by
  obtain ⟨X, hX, h⟩ := h
  exact wpList_fkO hgd s x ho h hn y1 y2 hs hx (fun v' w' h2 => hK v' w' ⟨X, hX, h2⟩)
end
end
end Go.Proofs.Ytagnipkannogoaa
