/-
  cache's laws: a cache in a law's world; the known case.
-/
import Derived.Test.YtlimbcpghfddkaaCaAdd
namespace Go.Proofs.Ytlimbcpghfddkaa
open Go.RowKit Go Go.Maps

/-- A cache in a law's world: all its blocks lie above B. -/
structure KAt (B : Nat) (w : World) (K : KC) (A : Ca) (W : World) : Prop where
  at_ : CaAt W K A
  bel : Below B w W
  low : ∀ k, K.all A.L k → B ≤ k
  le : B ≤ W.heap.size
section
variable {B : Nat} {w W W' : World} {K K' : KC} {A A' : Ca} {x : Int}
theorem KAt.later (H : KAt B w K A W) (h : Below W.heap.size W W') : KAt B w K A W' :=
  ⟨H.at_.later h, H.bel.trans (h.mono H.le), H.low, Nat.le_trans H.le h.size⟩
theorem KAt.turn (H : KAt B w K A W) {Bb : Nat → Prop} {β : Int → Nat} (T : KTurn W K A Bb β K' A' W') (hB : ∀ k, Bb k → B ≤ k) : KAt B w K' A' W' :=
  ⟨T.at_, T.only.below H.bel H.le (fun k hk => hk.elim (H.low k) (hB k)), fun k hk => (T.new k hk).elim (H.low k) (fun h => h.elim (hB k) (fun h => Nat.le_trans H.le h)), Nat.le_trans H.le T.only.size⟩
theorem KAt.same (H : KAt B w K A W) {β : Int → Nat} (T : KTurn W K A noB β K' A' W') : KAt B w K' A' W' := H.turn T (fun _ h => h.elim)
theorem KAt.only (H : KAt B w K A W) {P : Nat → Prop} (ho : Only P W W') (h1 : ∀ k, K.all A.L k → ¬ P k) (h2 : ∀ k, P k → B ≤ k) : KAt B w K A W' :=
  ⟨H.at_.only ho h1, ho.below H.bel H.le h2, H.low, Nat.le_trans H.le ho.size⟩
theorem KAt.of_new {sz : Nat} {e : Ending} (hb : Below B w W) (hle : B ≤ W.heap.size) (h : KNew W sz e W') : ∃ K : KC, e = .returned (.tuple #[.pointer (some ⟨K.c, 0, none⟩), .int .i64 0]) ∧ KAt B w K ⟨sz, 0, []⟩ W' ∧ ∀ k, K.all [] k → W.heap.size ≤ k := by
  obtain ⟨K, e1, h1, h2, h3⟩ := h
  exact ⟨K, e1, ⟨h1, hb.trans (h2.mono hle), fun k hk => Nat.le_trans hle (h3 k hk), Nat.le_trans hle h2.size⟩, h3⟩
/-- What is told of a cache aside of it. -/
theorem KTurn.off {Bb : Nat → Prop} {β : Int → Nat} (T : KTurn W K A Bb β K' A' W') {k : Nat} (h1 : ¬ K.all A.L k) (h2 : k < W.heap.size) (h3 : ¬ Bb k) : ¬ K'.all A'.L k := fun h => (T.new k h).elim h1 (fun h => h.elim h3 (fun h => by omega))
/-- A slab of new bytes. -/
def KMade (B : Nat) (w : World) (K : KC) (A : Ca) (x : Int) (W : World) (e : Ending) (W' : World) : Prop :=
  e = .returned (.int .i64 0) ∧ ∃ K', KAt B w K' (A.added x (fun _ => 0)) W' ∧ K'.c = K.c ∧ Only (K.all A.L) W W' ∧ ∀ k, K'.all (A.added x (fun _ => 0)).L k → K.all A.L k ∨ W.heap.size ≤ k
theorem KAt.makes (H : KAt B w K A W) (hl : A.L.length ≤ 999) (hwf : (Lit.int .i64 x).wf = true) (hx : 0 ≤ x) (hn : findL A.L x = none) {Z : Array Value} (hZ : ∀ i, i < 256 → Z[i]? = some (byV (fun _ => 0) i)) :
    Calls Try.prog 13 #[.pointer (some ⟨K.c, 0, none⟩), .int .i64 x, .slice (some ⟨W.heap.size, 0, none⟩) 256 256] (W.alloc (.cells Z 5)) (KMade B w K A x W) := by
  have hba : Below W.heap.size W (W.alloc (.cells Z 5)) := (Below.refl _ _).alloc (Nat.le_refl _) _
  have H1 := H.later hba
  refine (kadd_any H1.at_ hl x hwf W.heap.size 256 (Nat.le_refl _) _ hx hn (RowAt.new W Z 5 256 _ hZ) (fun h => by have := H.at_.lt _ h; omega)).mono ?_
  rintro e W' ⟨rfl, K', T⟩
  refine ⟨rfl, K', H1.turn T (fun k hk => by rw [hk]; exact H.le), T.c, ?_, fun k hk => (T.new k hk).elim .inl (fun h => .inr (h.elim (fun h => by omega) (fun h => Nat.le_trans hba.size h)))⟩
  have ho := (Only.of_below (S := fun k => K.all A.L k ∨ k = W.heap.size) hba).trans T.only
  exact ⟨ho.os, ho.tape, ho.output, ho.size, fun k hk hs => ho.block k hk (fun h => h.elim hs (fun h => by omega))⟩
end
theorem int_wfK {x : Int} (h1 : -9223372036854775808 ≤ x) (h2 : x ≤ 9223372036854775807) : (Lit.int .i64 x).wf = true := by
  simp only [Lit.wf, Bool.and_eq_true, decide_eq_true_eq]
  exact ⟨h1, h2⟩
def kA0 : Ca := ⟨128, 0, []⟩
def kA1 : Ca := kA0.added 3 (fun _ => 0)
def kA2 : Ca := kA1.added 5 (fun _ => 0)
def kA3 : Ca := kA2.take.2.2.2
def kA4 : Ca := kA3.take.2.2.2
def kA5 : Ca := kA4.take.2.2.2
def kA6 : Ca := (kA5.give 3 1).2
theorem kA_t0 : kA2.take = (3, 0, 0, kA3) := by rfl
theorem kA_t1 : kA3.take = (3, 1, 0, kA4) := by rfl
theorem kA_t2 : kA4.take = (5, 0, 0, kA5) := by rfl
theorem kA_g : kA5.give 3 1 = (0, kA6) := by rfl
theorem kA_d : (kA6.drop 5).1 = 80 := by decide +kernel
theorem kA_l (n : Nat) : n ≤ 2 → n ≤ 1000 := fun h => by omega
set_option maxRecDepth 100000 in
set_option maxHeartbeats 8000000 in
theorem kknown_any (w : World) : Calls Try.prog 9 #[] w fun e w' => e = .returned (.bool true) ∧ Below w.heap.size w w' := by
  obtain ⟨Z, hZ, hmk⟩ := make_bytesK
  have HZ := Lib.hid hZ
  clear hZ
  go_enter Try.func9, Try.ntmps9
  go_wp2_with (fail)
  refine (knew_any 128 w (by decide)).mono ?_
  intro e w1 h
  obtain ⟨K0, rfl, hK, _⟩ := KAt.of_new (Below.refl w.heap.size w) (Nat.le_refl _) h
  have H0 := Lib.hid (show KAt w.heap.size w K0 kA0 w1 from hK)
  clear hK h
  go_wp2_with (fail)
  refine (H0.out.makes (x := 3) (by decide) (by decide) (by decide) rfl HZ.out).mono ?_
  rintro e w2 ⟨rfl, K1, h1, h2, _⟩
  have H1 := Lib.hid (show KAt w.heap.size w K1 kA1 w2 from h1)
  rw [← h2]
  clear h1 h2 H0
  go_wp2_with (fail)
  refine (H1.out.makes (x := 5) (by decide) (by decide) (by decide) rfl HZ.out).mono ?_
  rintro e w3 ⟨rfl, K2, h1, h2, _⟩
  have H2 := Lib.hid (show KAt w.heap.size w K2 kA2 w3 from h1)
  rw [← h2]
  clear h1 h2 H1 hmk HZ
  go_wp2_with (fail)
  refine (ktake_any H2.out.at_ (by decide)).mono ?_
  rintro e w4 ⟨rfl, K3, T⟩
  rw [kA_t0] at T ⊢
  have H3 := Lib.hid (H2.out.same T)
  rw [← T.c]
  clear T H2
  go_wp2_with (fail)
  refine (ktake_any H3.out.at_ (by decide)).mono ?_
  rintro e w5 ⟨rfl, K4, T⟩
  rw [kA_t1] at T ⊢
  have H4 := Lib.hid (H3.out.same T)
  rw [← T.c]
  clear T H3
  go_wp2_with (fail)
  refine (ktake_any H4.out.at_ (by decide)).mono ?_
  rintro e w6 ⟨rfl, K5, T⟩
  rw [kA_t2] at T ⊢
  have H5 := Lib.hid (H4.out.same T)
  rw [← T.c]
  clear T H4
  go_wp2_with (fail)
  refine (kgive_any H5.out.at_ 3 1 (by decide)).mono ?_
  rintro e w7 ⟨rfl, K6, T⟩
  rw [kA_g] at T ⊢
  have H6 := Lib.hid (H5.out.same T)
  rw [← T.c]
  clear T H5
  go_wp2_with (fail)
  refine (kdrop_any H6.out.at_ 5 (by decide)).mono ?_
  rintro e w8 ⟨rfl, K7, T⟩
  rw [kA_d]
  have HB := Lib.hid (H6.out.same T).bel
  clear T H6
  go_wp2_with (fail)
  go_ret
  exact ⟨rfl, HB.out⟩
end Go.Proofs.Ytlimbcpghfddkaa
