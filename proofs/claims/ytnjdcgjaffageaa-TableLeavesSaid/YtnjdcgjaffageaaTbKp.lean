/-
  table's laws: the memory beside blocks of the law's own (P).
-/
import Derived.Test.YtnjdcgjaffageaaTbKnown
namespace Go.Proofs.Ytnjdcgjaffageaa
open Go.RowKit Go.Shelf Go

def MKP (IsT : Thg → Nat → (Nat → Nat) → (Nat → Nat → Ent) → Prop) (w0 : World) (m : Nat) (R : Nat → Nat) (E : Nat → Nat → Ent) (P : Nat → Prop) (w : World) : Prop :=
  ∃ X, IsT X m R E ∧ X.At w ∧ Below w0.heap.size w0 w ∧ (∀ k, X.has k → w0.heap.size ≤ k ∧ ¬ P k) ∧ ∀ k, P k → k < w.heap.size
section
variable {IsT : Thg → Nat → (Nat → Nat) → (Nat → Nat → Ent) → Prop} (ok : TabOk IsT) {w0 w w' : World} {m : Nat} {R : Nat → Nat} {E : Nat → Nat → Ent} {P Q : Nat → Prop}
theorem MKP.mk (h : MKP IsT w0 m R E P w) : MK IsT w0 m R E w := by
  obtain ⟨X, h1, h2, h3, h4, _⟩ := h
  exact ⟨X, h1, h2, h3, fun k hk => (h4 k hk).1⟩
theorem MK.kp (h : MK IsT w0 m R E w) : MKP IsT w0 m R E (fun _ => False) w := by
  obtain ⟨X, h1, h2, h3, h4⟩ := h
  exact ⟨X, h1, h2, h3, fun k hk => ⟨h4 k hk, fun h => h⟩, fun _ h => h.elim⟩
theorem MKP.later (h : MKP IsT w0 m R E P w) (hb : Below w.heap.size w w') : MKP IsT w0 m R E P w' := by
  obtain ⟨X, h1, h2, h3, h4, h5⟩ := h
  exact ⟨X, h1, X.later h2 hb, h3.trans (hb.mono h3.size), h4, fun k hk => Nat.lt_of_lt_of_le (h5 k hk) hb.size⟩
/-- A new block is the law's. -/
theorem MKP.add (h : MKP IsT w0 m R E P w) (hb : Below w.heap.size w w') (hw : ∀ k, Q k → P k ∨ w.heap.size ≤ k ∧ k < w'.heap.size) : MKP IsT w0 m R E Q w' := by
  obtain ⟨X, h1, h2, h3, h4, h5⟩ := h
  refine ⟨X, h1, X.later h2 hb, h3.trans (hb.mono h3.size), fun k hk => ⟨(h4 k hk).1, fun hq => ?_⟩, fun k hk => ?_⟩
  · rcases hw k hq with h | ⟨h, _⟩
    · exact (h4 k hk).2 h
    · have := X.lt w h2 k hk
      omega
  · rcases hw k hk with h | ⟨_, h⟩
    · exact Nat.lt_of_lt_of_le (h5 k h) hb.size
    · exact h
/-- The law's own blocks turn. -/
theorem MKP.own (h : MKP IsT w0 m R E P w) {S : Nat → Prop} (ho : Only S w w') (hS : ∀ k, S k → P k) (hlo : ∀ k, S k → w0.heap.size ≤ k) : MKP IsT w0 m R E P w' := by
  obtain ⟨X, h1, h2, h3, h4, h5⟩ := h
  exact ⟨X, h1, X.only S w w' h2 ho (fun k hk hs => (h4 k hk).2 (hS k hs)), ho.below h3 h3.size hlo, h4, fun k hk => Nat.lt_of_lt_of_le (h5 k hk) ho.size⟩
theorem MKP.turn {X Y : Thg} {R' : Nat → Nat} {E' : Nat → Nat → Ent} (h3 : Below w0.heap.size w0 w) (h4 : ∀ k, X.has k → w0.heap.size ≤ k ∧ ¬ P k) (h5 : ∀ k, P k → k < w.heap.size) (hY : IsT Y m R' E') (hT : TTurn w X w' Y) :
    MKP IsT w0 m R' E' P w' ∧ Only (fun k => ¬ P k) w w' := by
  refine ⟨⟨Y, hY, hT.at', hT.only.below h3 h3.size (fun k hk => (h4 k hk).1), fun k hk => ?_, fun k hk => Nat.lt_of_lt_of_le (h5 k hk) hT.only.size⟩, hT.only.mono (fun k hk => (h4 k hk).2)⟩
  rcases hT.new k hk with h | h
  · exact h4 k h
  · refine ⟨Nat.le_trans h3.size h, fun hp => ?_⟩
    have := h5 k hp
    omega
include ok
theorem set_mkp (h : MKP IsT w0 m R E P w) (p ki : Int) (k : Nat) (n : Int) (ek : ki = k) (hp : InI p) (hk : k < 256) (hn : InI n) (c : Int) (E2 : Nat → Nat → Ent)
    (hc : (if Pg p ∧ entOk (k, n) then (if R (p.toNat / 32) = 0 then 7 else 0) else 2) = c) (hE : (if Pg p ∧ entOk (k, n) ∧ R (p.toNat / 32) ≠ 0 then setX E (R (p.toNat / 32)) (p.toNat % 32) (k, n) else E) = E2) :
    Calls Try.prog 14 #[.pointer (some ⟨m, 0, none⟩), .int .i64 0, .int .i64 p, .agg #[.int .u8 ki, .int .i64 n]] w fun e w' =>
    e = .returned (.int .i64 c) ∧ MKP IsT w0 m R E2 P w' ∧ Only (fun k => ¬ P k) w w' := by
  subst hc; subst hE; subst ek
  obtain ⟨X, h1, h2, h3, h4, h5⟩ := h
  exact (ok.set p k n hp hk hn h1 h2).mono fun _ _ ⟨Y, e, hY, hT⟩ => ⟨e, MKP.turn h3 h4 h5 hY hT⟩
theorem setLeaf_mkp (h : MKP IsT w0 m R E P w) (p li : Int) (l : Nat) (hp : InI p) (hl : l ≤ 3) (e : li = if l = 0 then -1 else (l : Int)) (c : Int) (R2 : Nat → Nat) (hc : (if Pg p then 0 else 2) = c) (hR : (if Pg p then setR R (p.toNat / 32) l else R) = R2) :
    Calls Try.prog 13 #[.pointer (some ⟨m, 0, none⟩), .int .i64 0, .int .i64 p, .int .i64 li] w fun e w' =>
    e = .returned (.int .i64 c) ∧ MKP IsT w0 m R2 E P w' ∧ Only (fun k => ¬ P k) w w' := by
  subst hc; subst hR; subst e
  obtain ⟨X, h1, h2, h3, h4, h5⟩ := h
  exact (ok.setLeaf p l hp hl h1 h2).mono fun _ _ ⟨Y, e, hY, hT⟩ => ⟨e, MKP.turn h3 h4 h5 hY hT⟩
end
end Go.Proofs.Ytnjdcgjaffageaa
