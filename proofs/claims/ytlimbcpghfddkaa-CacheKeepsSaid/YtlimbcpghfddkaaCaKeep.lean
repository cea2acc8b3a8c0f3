/-
  CacheKeeps: a cache in the law's world, and the list of what is out.
-/
import Derived.Test.YtlimbcpghfddkaaCaKp
import Derived.Test.YtlimbcpghfddkaaEqArr
import Derived.Test.YtlimbcpghfddkaaLexApp
namespace Go.Proofs.Ytlimbcpghfddkaa
open Go.RowKit Go Go.Maps

def encK (p : Int × Nat) : List Value := [.int .i64 p.1, .int .i64 p.2]
theorem encK_len : ∀ p, (encK p).length = 2 := fun _ => rfl
theorem encK_one : ∀ p, ∀ u ∈ encK p, u.oneCell' = true := fun p u h => by
  unfold encK at h
  simp only [List.mem_cons, List.mem_nil_iff, or_false] at h
  rcases h with rfl | rfl <;> rfl
theorem pairK_one (x y : Int) : ∀ u, u ∈ (#[Value.int .i64 x, .int .i64 y] : Array Value).toList → u.oneCell' = true := by
  intro u h
  simp only [List.mem_cons, List.mem_nil_iff, or_false] at h
  rcases h with rfl | rfl <;> rfl
set_option maxRecDepth 100000 in
theorem infoPair : (Try.prog.info? 54).map (fun i => (i.zero, i.size, i.bytes)) = some (some (.agg #[.int .i64 0, .int .i64 0]), 2, 16) := by kernel_rfl
set_option maxRecDepth 100000 in
theorem sizePair (w : World) : (sizeOf 54).run Try.prog w = .ok 2 w := by kernel_rfl
set_option maxRecDepth 100000 in
theorem sizeIntK (w : World) : (sizeOf 3).run Try.prog w = .ok 1 w := by kernel_rfl
set_option maxRecDepth 100000 in
theorem aggIntK (w : World) : (isAgg 3).run Try.prog w = .ok false w := by kernel_rfl
set_option maxRecDepth 100000 in
/-- Two pairs compared. -/
theorem equal_pair (x1 k1 x2 k2 : Int) (W : World) : (Op.equalIn 10000 54 (.agg #[.int .i64 x1, .int .i64 k1]) (.agg #[.int .i64 x2, .int .i64 k2])).run Try.prog W = .ok (decide (x1 = x2 ∧ k1 = k2)) W := by
  have h := equal_ints (P := Try.prog) W (d := 9998) (xs := #[.int .i64 x1, .int .i64 k1]) (ys := #[.int .i64 x2, .int .i64 k2]) (fun i => if i = 0 then x1 else k1) (fun i => if i = 0 then x2 else k2) Try.underlying54 Try.underlying3 sizeIntK aggIntK
    (fun i hi => by rcases (show i = 0 ∨ i = 1 by omega) with rfl | rfl <;> rfl) (fun i hi => by rcases (show i = 0 ∨ i = 1 by omega) with rfl | rfl <;> rfl)
  rw [h]
  congr 1
  unfold allR
  rw [Bool.eq_iff_iff]
  simp [List.range, List.range.loop]
/-- A cache, and a list. -/
structure KeAt (B : Nat) (w : World) (n q B3 : Nat) (K : KC) (A : Ca) (out M : List (Int × Nat)) (v : Value) (W : World) : Prop where
  k : KAt B w K A W
  p : KpI A n q out
  up : ∀ k, K.all A.L k → k < B3
  lst : W.ownsRow B3 54 2 v M.length (recV encK M)
  b : B ≤ B3
  b3 : B3 ≤ W.heap.size
section
variable {B n q B3 : Nat} {w W W' : World} {K K' : KC} {A A' : Ca} {out out' M : List (Int × Nat)} {v : Value}
theorem KeAt.later (H : KeAt B w n q B3 K A out M v W) (h : Below W.heap.size W W') : KeAt B w n q B3 K A out M v W' :=
  ⟨H.k.later h, H.p, H.up, owns_later H.lst h, H.b, Nat.le_trans H.b3 h.size⟩
theorem KeAt.turn (H : KeAt B w n q B3 K A out M v W) {β : Int → Nat} (T : KTurn W K A noB β K' A' W') (P : KpI A' n q out') : KeAt B w n q B3 K A' out' M v W' := by
  have e := T.keep rfl
  subst e
  refine ⟨H.k.same T, P, fun k hk => H.up k (T.sub rfl k hk), owns_only H.lst T.only (fun k hk h => ?_), H.b, Nat.le_trans H.b3 T.only.size⟩
  rcases h with h | h
  · have := H.up k h
    have := (H.lst.lt k hk).1
    omega
  · exact h
theorem KeAt.more (H : KeAt B w n q B3 K A out M v W) {v' : Value} {x : Int × Nat} (h : W'.ownsRow B3 54 2 v' (M.length + 1) (recV encK M ++ (#[Value.int .i64 x.1, .int .i64 x.2] : Array Value).toList)) (ho : Only (fun k => v.ownBlock = some k) W W') :
    KeAt B w n q B3 K A out (M ++ [x]) v' W' := by
  have hS : ∀ k, v.ownBlock = some k → B3 ≤ k := fun k hk => (H.lst.lt k hk).1
  have hb := H.b
  refine ⟨H.k.only ho (fun k hk hs => ?_) (fun k hk => by have := hS k hk; omega), H.p, H.up, ?_, H.b, Nat.le_trans H.b3 ho.size⟩
  · have := hS k hs
    have := H.up k hk
    omega
  · rw [List.length_append, recV_append, recV_single]
    exact h
theorem KeAt.anew (H : KeAt B w n q B3 K A out M v W) {U : List (Int × Nat)} {v' : Value} (h : W'.ownsRow W.heap.size 54 2 v' U.length (recV encK U)) (hb : Below W.heap.size W W') : KeAt B w n q B3 K A out U v' W' :=
  ⟨H.k.later hb, H.p, H.up, owns_base h (fun k hk => Nat.le_trans H.b3 (h.lt k hk).1), H.b, Nat.le_trans H.b3 hb.size⟩
theorem KeAt.at {la : Option Addr} {lc : Nat} (H : KeAt B w n q B3 K A out M (.slice la M.length lc) W) (j : Nat) (hj : j < M.length) : ∃ g, la = some ⟨g, 0, none⟩ ∧ W.cell? ⟨g, j * 2, none⟩ = some (.int .i64 M[j].1) ∧ W.cell? ⟨g, j * 2 + 1, none⟩ = some (.int .i64 M[j].2) := by
  obtain ⟨a, cap, e, hR⟩ := RecsAt.of_owns H.lst
  injection e with e1 _ _
  subst e1
  obtain ⟨g, rfl, _, _, hr⟩ := hR.get encK_len j hj
  exact ⟨g, rfl, hr 0 _ rfl, hr 1 _ rfl⟩
theorem KeAt.part {la : Option Addr} {lc : Nat} (H : KeAt B w n q B3 K A out M (.slice la M.length lc) W) (hk : 0 < M.length) : ∃ g, la = some ⟨g, 0, none⟩ ∧ M.length ≤ lc ∧ ∀ j u, (recV encK M)[j]? = some u → W.cell? ⟨g, j, none⟩ = some u := by
  obtain ⟨hl, ⟨_, h0⟩ | ⟨g, cap, cur, e, _, hh, hnc, _, _, ht⟩⟩ := H.lst
  · omega
  · injection e with e1 _ e3
    subst e1; subst e3
    refine ⟨g, rfl, hnc, fun j u hj => ?_⟩
    have hlt := (List.getElem?_eq_some_iff.1 hj).1
    rw [hl] at hlt
    rw [cell_of_row _ _ _ _ _ _ hh, ← hj, ← ht, List.getElem?_take_of_lt hlt]
    simp
theorem own_sliceK {base : Nat} (P : W.ownsRow base 54 2 v M.length (recV encK M)) : ∃ a cap, v = .slice a M.length cap := by
  obtain ⟨a, cap, rfl, _⟩ := RecsAt.of_owns P
  exact ⟨a, cap, rfl⟩
/-- What Take says. -/
def KeTook (B : Nat) (w : World) (n q B3 : Nat) (K : KC) (A : Ca) (out M : List (Int × Nat)) (v : Value) (e : Ending) (W' : World) : Prop :=
  (∃ (x : Int) (k : Nat) (A' : Ca), e = .returned (.tuple #[.int .i64 x, .int .i64 k, .int .i64 0]) ∧ (x, k) ∉ out ∧ KeAt B w n q B3 K A' (out ++ [(x, k)]) M v W') ∨ (out.length = n * q ∧ e = .returned (.tuple #[.int .i64 0, .int .i64 0, .int .i64 7]) ∧ KeAt B w n q B3 K A out M v W')
theorem KeAt.take (H : KeAt B w n q B3 K A out M v W) (hn : n ≤ 1000) : Calls Try.prog 15 #[.pointer (some ⟨K.c, 0, none⟩)] W (KeTook B w n q B3 K A out M v) := by
  refine (ktake_any H.k.at_ (by rw [H.p.len]; exact hn)).mono ?_
  rintro e W' ⟨rfl, K', T⟩
  cases hp : pickL A.L with
  | none =>
    have hz : A.take = (0, 0, 7, A) := by unfold Ca.take; rw [hp]
    rw [hz] at T ⊢
    exact .inr ⟨H.p.none hp, rfl, H.turn T H.p⟩
  | some p =>
    obtain ⟨k, hz, h1, _, h2⟩ := H.p.take H.k.at_.inv hp
    rw [hz] at T ⊢
    exact .inl ⟨p.fr, k, _, rfl, h1, H.turn T h2⟩
theorem KeAt.wf (H : KeAt B w n q B3 K A out M v W) {y : Int × Nat} (h : y ∈ out) : (Lit.int .i64 y.1).wf = true := by
  obtain ⟨S, h1, _⟩ := (H.p.mem y.1 y.2).1 h
  exact H.k.at_.wf _ (findL_mem h1)
/-- What Give says of what is out, and once more. -/
def KeGave (B : Nat) (w : World) (n q B3 : Nat) (K : KC) (out M : List (Int × Nat)) (v : Value) (y : Int × Nat) (e : Ending) (W' : World) : Prop :=
  e = .returned (.int .i64 0) ∧ ∃ A', KeAt B w n q B3 K A' out M v W' ∧ A'.give y.1 (y.2 : Nat) = (8, A')
theorem KeAt.give (H : KeAt B w n q B3 K A out M v W) {h : Nat} (hh : h < out.length) {x : Int} {k : Nat} (e : out[h] = (x, k)) : Calls Try.prog 17 #[.pointer (some ⟨K.c, 0, none⟩), .int .i64 x, .int .i64 k] W (KeGave B w n q B3 K (out.eraseIdx h) M v (x, k)) := by
  have hw := H.wf (List.getElem_mem hh)
  obtain ⟨h1, h2, h3⟩ := H.p.back H.k.at_.inv hh
  rw [e] at hw h1 h2 h3
  refine (kgive_any H.k.at_ x k hw).mono ?_
  rintro e W' ⟨rfl, K', T⟩
  dsimp only at h1 h2 h3
  rw [h1]
  exact ⟨rfl, _, H.turn T h3, h2⟩
theorem KeAt.giveNo (H : KeAt B w n q B3 K A out M v W) {x : Int} {k : Nat} (hw : (Lit.int .i64 x).wf = true) (h : A.give x (k : Nat) = (8, A)) : Calls Try.prog 17 #[.pointer (some ⟨K.c, 0, none⟩), .int .i64 x, .int .i64 k] W fun e W' => e = .returned (.int .i64 8) ∧ KeAt B w n q B3 K A out M v W' := by
  refine (kgive_any H.k.at_ x k hw).mono ?_
  rintro e W' ⟨rfl, K', T⟩
  rw [h] at T ⊢
  exact ⟨rfl, H.turn T H.p⟩
end
end Go.Proofs.Ytlimbcpghfddkaa
