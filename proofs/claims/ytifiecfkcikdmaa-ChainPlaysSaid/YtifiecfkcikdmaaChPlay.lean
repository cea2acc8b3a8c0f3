/-
  ChainPlays: the program's slab and the document's, side by side.
-/
import Derived.Test.YtifiecfkcikdmaaChSame
import Derived.Test.YtifiecfkcikdmaaChOps
namespace Go.Proofs.Ytifiecfkcikdmaa
open Go.RowKit Go

section
variable {w w' : World} {r bb bc : Nat} {S : Sl} {v : Value}
/-- What lies below the document's struct, and is not its bytes, turns. -/
theorem CRef.aside {P : Nat → Prop} (R : CRef w r bb bc S v) (ho : Only P w w') (h1 : ∀ k, P k → k < r) (h2 : ¬ P bb) : CRef w' r bb bc S v := by
  refine ⟨R.row.only ho (fun h => Nat.lt_irrefl r (h1 r h)), R.byt.only ho h2, ?_, R.ne⟩
  obtain ⟨a, c, e, hle, hh⟩ := R.chn
  refine ⟨a, c, e, hle, fun j hj => ?_⟩
  obtain ⟨b, o, e2, q1, q2, hc⟩ := hh j hj
  exact ⟨b, o, e2, q1, q2, ho.cell (fun hp => by have := h1 b hp; omega) hc⟩
/-- The document's bytes are written. -/
theorem CRef.wrote (R : CRef w r bb bc S v) {f : Nat → UInt8} (ho : Only (fun k => k = bb) w w') (hr : RowAt w' bb 256 (byV f)) : CRef w' r bb bc { S with bt := f } v :=
  ⟨R.row.only ho R.ne, hr, R.chn.only ho (fun _ hk => .inr hk), R.ne⟩
end
/-- Both slabs. -/
structure PcAt (SlAt : World → SC → Sl → Prop) (B : Nat) (C : SC) (r bb bc : Nat) (S S' : Sl) (v : Value) (w W : World) : Prop where
  l : LAt SlAt B w C S W
  ref : CRef W r bb bc S' v
  cr : ∀ k, C.all k → k < r
  cb : ¬ C.all bb
  rB : B ≤ r
  bB : B ≤ bb
section
variable {SlAt : World → SC → Sl → Prop} {B r bb bc : Nat} {C : SC} {S S' S2 : Sl} {v v' : Value} {w W W' : World}
theorem PcAt.later (K : ChainOk SlAt) (P : PcAt SlAt B C r bb bc S S' v w W) (h : Below W.heap.size W W') : PcAt SlAt B C r bb bc S S' v w W' :=
  ⟨P.l.later K h, P.ref.later h, P.cr, P.cb, P.rB, P.bB⟩
/-- The program's turns. -/
theorem PcAt.turn (P : PcAt SlAt B C r bb bc S S' v w W) (A : SlAt W' C S2) (ho : Only C.all W W') : PcAt SlAt B C r bb bc S2 S' v w W' :=
  ⟨P.l.turn A ho, P.ref.aside ho P.cr P.cb, P.cr, P.cb, P.rB, P.bB⟩
/-- The document's turns. -/
theorem PcAt.turnR (K : ChainOk SlAt) (P : PcAt SlAt B C r bb bc S S' v w W) (R : CRef W' r bb bc S2 v') (ho : Only (fun k => k = r ∨ k = bb) W W') : PcAt SlAt B C r bb bc S S2 v' w W' :=
  ⟨P.l.only K ho (fun k hk h => by
    rcases h with h | h
    · have := P.cr k hk; omega
    · exact P.cb (by rw [← h]; exact hk)) (fun k h => by
    have := P.rB
    have := P.bB
    rcases h with h | h <;> omega), R, P.cr, P.cb, P.rB, P.bB⟩
/-- A call of the law's own lies behind all. -/
theorem PcAt.opN (P : PcAt SlAt B C r bb bc S S' v w W) {ob n : Nat} {f : Nat → Value} (R : RowAt W ob n f) (hob : r < ob) (ho : Only C.all W W') : RowAt W' ob n f :=
  R.only ho (fun h => by have := P.cr ob h; omega)
theorem opR_stays {ob n : Nat} {f : Nat → Value} (R : RowAt W ob n f) (hob : r < ob ∧ bb < ob) (ho : Only (fun k => k = r ∨ k = bb) W W') : RowAt W' ob n f :=
  R.only ho (fun h => by rcases h with h | h <;> omega)
end
/-- Some bytes of an object are written. -/
def bS (S : Sl) (p j : Nat) (x : Nat → UInt8) : Sl := { S with bt := putB S.bt p j x }
theorem bS_zero (S : Sl) (p : Nat) (x : Nat → UInt8) : bS S p 0 x = S := by
  unfold bS
  rw [putB_zero]
theorem putB_step (f : Nat → UInt8) (o k : Nat) (x : Nat → UInt8) (i : Nat) : putB f o (k + 1) x i = if i = o + k then x k else putB f o k x i := by
  unfold putB
  by_cases h : i = o + k
  · subst h
    rw [if_pos rfl, if_pos (by omega), Nat.add_sub_cancel_left]
  · rw [if_neg h]
    by_cases h2 : o ≤ i ∧ i < o + k
    · rw [if_pos h2, if_pos (by omega)]
    · rw [if_neg h2, if_neg (by omega)]
theorem bS_inv {S : Sl} (I : SlI S) {i : Nat} (hi : i < S.n) (ho : S.out i = true) {j : Nat} (hj : j ≤ S.sz) (x : Nat → UInt8) : SlI (bS S (S.pos i) j x) :=
  I.wrote hi ho fun p _ hp => by
    unfold putB
    rw [if_neg (by omega)]
/-- One more byte. -/
theorem row_bS {W : World} {b : Nat} {S : Sl} {p j : Nat} {x : Nat → UInt8} (R : RowAt W b 256 (byV (bS S p j x).bt)) : RowAt (W.setCell ⟨b, p + j, none⟩ (.int .u8 (x j).toNat)) b 256 (byV (bS S p (j + 1) x).bt) :=
  (R.setCell (p + j) _).ext fun i _ => by
    unfold updV byV bS
    dsimp only
    rw [putB_step]
    split <;> rfl
theorem Src.plain {w : World} {a : Option Addr} {n : Nat} {x : Nat → UInt8} (S : Src w a n x) (hn : 0 < n) : ∃ b o, a = some ⟨b, o, none⟩ ∧ b < w.heap.size ∧ ∀ j, j < n → w.cell? ⟨b, o + j, none⟩ = some (byV x j) := by
  obtain ⟨⟨b, o, spot⟩, e, hc⟩ := S hn
  have hspot : spot = none := by
    have h0 := hc 0 hn
    simpa [Addr.add] using World.cell?_spot h0
  subst hspot
  have h1 : ∀ j, j < n → w.cell? ⟨b, o + j, none⟩ = some (byV x j) := fun j hj => by
    have := hc j hj
    rw [add_plain] at this
    exact this
  exact ⟨b, o, e, World.block_lt_of_cell? _ _ (h1 0 hn), h1⟩
/-- Bytes of the call's own. -/
theorem bytes_own {w : World} {base n : Nat} {v : Value} {x : Nat → UInt8} (h : w.ownsRow base 5 1 v n (bytL n x)) : ∃ a c, v = .slice a n c ∧ Src w a n x ∧ (0 < n → ∃ g, a = some ⟨g, 0, none⟩ ∧ base ≤ g ∧ g < w.heap.size ∧ RowAt w g n (byV x)) := by
  obtain ⟨a, c, rfl, hh⟩ := owns_slice h
  have key : 0 < n → ∃ g, a = some ⟨g, 0, none⟩ ∧ base ≤ g ∧ g < w.heap.size ∧ RowAt w g n (byV x) := fun hn => by
    obtain ⟨g, e, hg, ho, A, t, hA, hx⟩ := hh hn
    exact ⟨g, e, hg, (h.lt g ho).2, A, t, hA, fun i hi => by
      have := hx i (by omega)
      rw [bytL_at hi] at this
      exact this⟩
  refine ⟨a, c, rfl, fun hn => ?_, key⟩
  obtain ⟨g, e, _, _, hr⟩ := key hn
  rw [e]
  exact Src.of_row hr (fun j hj => ⟨by omega, by rw [Nat.zero_add]⟩) hn
theorem bytes_cap {w : World} {base n c : Nat} {a : Option Addr} {xs : List Value} {e : TypeId} {size : Nat} (h : w.ownsRow base e size (.slice a n c) n xs) : n ≤ c := by
  obtain ⟨hl, ⟨hv, h0⟩ | ⟨g, cap, cur, hv, _, _, hnc, _⟩⟩ := h
  · injection hv with _ e1 e2
    omega
  · injection hv with _ _ e2
    omega
end Go.Proofs.Ytifiecfkcikdmaa
