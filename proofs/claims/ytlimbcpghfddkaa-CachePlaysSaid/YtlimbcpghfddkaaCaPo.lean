/-
  CachePlays: a call as it lies; Add on both sides.
-/
import Derived.Test.YtlimbcpghfddkaaCaPl
import Derived.Test.YtlimbcpghfddkaaCaAl
namespace Go.Proofs.Ytlimbcpghfddkaa
open Go.RowKit Go Go.Maps

theorem sizeOpA : (Try.prog.info? 33).map (·.size) = some 5 := by kernel_rfl
theorem store_opa (w : World) (Z : Array Value) (hz : Z.size = 5) (o : OpA) :
    (storeVar 33 ⟨w.heap.size, 0, none⟩ (.agg o.arr)).run Try.prog (w.alloc (.cells Z 33)) = .ok () (w.alloc (.cells o.arr 33)) :=
  run_storeVar_new (P := Try.prog) w 33 Z _ sizeOpA hz (by simp [OpA.arr, Value.oneCell'])
def oaV (o : OpA) (i : Nat) : Value := if i = 0 then .int .i64 o.kind else if i = 1 then .int .i64 o.fr else if i = 2 then .int .i64 o.i else if i = 3 then .int .u8 (o.fill.toNat : Nat) else .bool o.short
theorem opa_row (w : World) (o : OpA) : RowAt (w.alloc (.cells o.arr 33)) w.heap.size 5 (oaV o) := RowAt.new w _ _ 5 _ fun i hi => by
  rcases (show i = 0 ∨ i = 1 ∨ i = 2 ∨ i = 3 ∨ i = 4 by omega) with rfl | rfl | rfl | rfl | rfl <;> rfl
theorem opa_five {W : World} {ob : Nat} {o : OpA} (R : RowAt W ob 5 (oaV o)) : W.cell? ⟨ob, 0, none⟩ = some (.int .i64 o.kind) ∧ W.cell? ⟨ob, 1, none⟩ = some (.int .i64 o.fr) ∧ W.cell? ⟨ob, 2, none⟩ = some (.int .i64 o.i) ∧ W.cell? ⟨ob, 3, none⟩ = some (.int .u8 (o.fill.toNat : Nat)) ∧ W.cell? ⟨ob, 4, none⟩ = some (.bool o.short) :=
  ⟨R.cell 0 (by decide), R.cell 1 (by decide), R.cell 2 (by decide), R.cell 3 (by decide), R.cell 4 (by decide)⟩
theorem load_opa {W : World} {ob : Nat} {o : OpA} (R : RowAt W ob 5 (oaV o)) :
    (loadVar 33 ⟨ob, 0, none⟩).run Try.prog W = .ok (.agg o.arr) W := by
  obtain ⟨h0, h1, h2, h3, h4⟩ := opa_five R
  exact run_loadVar_mid (P := Try.prog) W ob 0 33 [.int .i64 o.kind, .int .i64 o.fr, .int .i64 o.i, .int .u8 (o.fill.toNat : Nat), .bool o.short] _ (fun j v hj => by
    match j, hj with
    | 0, hj => simp at hj; subst hj; exact h0
    | 1, hj => simp at hj; subst hj; exact h1
    | 2, hj => simp at hj; subst hj; exact h2
    | 3, hj => simp at hj; subst hj; exact h3
    | 4, hj => simp at hj; subst hj; exact h4) Try.underlying33 rfl sizeOpA
theorem infoBytes : (Try.prog.info? 34).map (fun i => (i.zero, i.size, i.bytes)) = some (some (.slice none 0 0), 1, 24) := by kernel_rfl
section
variable {B : Nat} {w W W' W1 W2 : World} {K K' : KC} {D D' : DC} {A A' : Ca} {u v u' : Value} {Ru Rv R : List Rc} {r : Rc} {x : Int} {S : Sl} {f : Nat → UInt8}
/-- What the program's Add comes to. -/
def AddK (W : World) (K : KC) (A : Ca) (x : Int) (r : Rc) (f : Nat → UInt8) (q : Int) (K' : KC) (W1 : World) : Prop :=
  ((x < 0 ∨ r.n ≠ 256) ∧ q = 2 ∧ K' = K ∧ W = W1) ∨ (0 ≤ x ∧ r.n = 256 ∧ (∃ S, findL A.L x = some S) ∧ q = 8 ∧ K' = K ∧ W = W1) ∨
    (0 ≤ x ∧ r.n = 256 ∧ findL A.L x = none ∧ q = 0 ∧ KTurn W K A (fun k => k = r.a) (updI (fun x => (K.g x).b) x r.a) K' (A.added x f) W1)
theorem AddK.c {q : Int} (h : AddK W K A x r f q K' W1) : K'.c = K.c := by
  rcases h with ⟨_, _, e, _⟩ | ⟨_, _, _, _, e, _⟩ | ⟨_, _, _, _, T⟩
  · rw [e]
  · rw [e]
  · exact T.c
theorem AddK.only {q : Int} (h : AddK W K A x r f q K' W1) : Only (fun k => K.all A.L k ∨ k = r.a) W W1 := by
  rcases h with ⟨_, _, _, e⟩ | ⟨_, _, _, _, _, e⟩ | ⟨_, _, _, _, T⟩
  · rw [e]
    exact Only.refl _ _
  · rw [e]
    exact Only.refl _ _
  · exact T.only
theorem PlC.addK (H : PlC B w K D A u v Ru Rv R W) (N : NewR B K D A u v R W f r) (hwf : (Lit.int .i64 x).wf = true) (hl : A.L.length ≤ 999) (n : Nat) (hrn : r.n = n) :
    Calls Try.prog 13 #[.pointer (some ⟨K.c, 0, none⟩), .int .i64 x, .slice (some ⟨r.a, 0, none⟩) n n] W fun e W1 => ∃ q K', e = .returned (.int .i64 q) ∧ AddK W K A x r f q K' W1 := by
  subst hrn
  by_cases hbad : x < 0 ∨ r.n ≠ 256
  · refine (kadd_no H.k.at_ x _ r.n r.n hbad).mono ?_
    rintro e W1 ⟨rfl, hw⟩
    exact ⟨2, K, rfl, .inl ⟨hbad, rfl, rfl, hw⟩⟩
  · have hx : 0 ≤ x := by omega
    have hn : r.n = 256 := by omega
    rw [hn]
    cases hf : findL A.L x with
    | some S =>
      refine (kadd_twice H.k.at_ x hwf _ 256 hx hf).mono ?_
      rintro e W1 ⟨rfl, hw⟩
      exact ⟨8, K, rfl, .inr (.inl ⟨hx, hn, ⟨S, hf⟩, rfl, rfl, hw⟩)⟩
    | none =>
      have hra := N.ra
      rw [hn] at hra
      refine (kadd_any H.k.at_ hl x hwf r.a 256 (Nat.le_refl _) f hx hf hra (N.off _ (.inl rfl)).1).mono ?_
      rintro e W1 ⟨rfl, K', T⟩
      exact ⟨0, K', rfl, .inr (.inr ⟨hx, hn, hf, rfl, T⟩)⟩
theorem PlC.addD (H : PlC B w K D A u v Ru Rv R W) (N : NewR B K D A u v R W f r) {q : Int} (hA : AddK W K A x r f q K' W1) (hl : A.L.length ≤ 999) (n : Nat) (hrn : r.n = n) :
    Calls Try.prog 14 #[.pointer (some ⟨D.d, 0, none⟩), .int .i64 x, .slice (some ⟨r.b, 0, none⟩) n n] W1 fun e W2 => e = .returned (.int .i64 q) ∧ ∃ D' A', D'.d = D.d ∧ Only (fun k => D.all A.L k ∨ k = r.b) W1 W2 ∧ PlC B w K' D' A' u v Ru Rv (R ++ [r]) W2 := by
  subst hrn
  rcases hA with ⟨hbad, rfl, rfl, rfl⟩ | ⟨hx, hn, ⟨S, hf⟩, rfl, rfl, rfl⟩ | ⟨hx, hn, hf, rfl, T⟩
  · refine (dadd_no D W x _ r.n r.n hbad).mono ?_
    rintro e W2 ⟨rfl, rfl⟩
    exact ⟨rfl, D, A, rfl, Only.refl _ _, H.addNo N⟩
  · rw [hn]
    refine (dadd_twice H.d (by omega) x _ 256 hx hf).mono ?_
    rintro e W2 ⟨rfl, rfl⟩
    exact ⟨rfl, D, A, rfl, Only.refl _ _, H.addNo N⟩
  · obtain ⟨h1, h2, h3⟩ := H.docRow N T
    rw [hn] at h2 ⊢
    refine (dadd_any h1 hl x r.b 256 f hx hf h2 h3).mono ?_
    rintro e W2 ⟨rfl, D', U⟩
    exact ⟨rfl, D', _, U.d, U.only, H.addYes N hn hf T U⟩
end
end Go.Proofs.Ytlimbcpghfddkaa
