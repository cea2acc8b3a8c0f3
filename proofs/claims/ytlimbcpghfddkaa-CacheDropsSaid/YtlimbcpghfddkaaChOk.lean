/-
  chain: what the program's calls come to, for whatever way a slab lies.
-/
import Derived.Test.YtlimbcpghfddkaaChRefN
namespace Go.Proofs.Ytlimbcpghfddkaa
open Go.RowKit Go

/-- A slab's blocks: its struct, its bytes; 'own' are all blocks of its own but the bytes. -/
structure SC where
  s : Nat
  b : Nat
  bc : Nat
  own : Nat → Prop
def SC.all (C : SC) (k : Nat) : Prop := C.own k ∨ k = C.b
/-- A call has told two things, and a slab is left. -/
def SPost2 (SlAt : World → SC → Sl → Prop) (w : World) (C : SC) (q : Int × Int × Sl) (e : Ending) (w' : World) : Prop :=
  e = .returned (.tuple #[.int .i64 q.1, .int .i64 q.2.1]) ∧ SlAt w' C q.2.2 ∧ Only C.all w w'
def SPost1 (SlAt : World → SC → Sl → Prop) (w : World) (C : SC) (q : Int × Sl) (e : Ending) (w' : World) : Prop :=
  e = .returned (.int .i64 q.1) ∧ SlAt w' C q.2 ∧ Only C.all w w'
def SNew (SlAt : World → SC → Sl → Prop) (w : World) (bb bc : Nat) (S : Sl) (e : Ending) (w' : World) : Prop :=
  ∃ C : SC, e = .returned (.tuple #[.pointer (some ⟨C.s, 0, none⟩), .int .i64 0]) ∧ C.b = bb ∧ C.bc = bc ∧ SlAt w' C S ∧ Only (fun k => k = bb) w w' ∧ ∀ k, C.own k → w.heap.size ≤ k
def SChain (w : World) (l : List Nat) (e : Ending) (w' : World) : Prop :=
  ∃ a c, e = .returned (.slice a l.length c) ∧ w'.ownsRow w.heap.size 3 1 (.slice a l.length c) l.length (natV l) ∧ Below w.heap.size w w'
def STold (w : World) (v : Value) (e : Ending) (w' : World) : Prop := e = .returned v ∧ Below w.heap.size w w'
structure ChainOk (SlAt : World → SC → Sl → Prop) : Prop where
  later : ∀ {w W : World} {C : SC} {S : Sl}, SlAt w C S → Below w.heap.size w W → SlAt W C S
  only : ∀ {w W : World} {C : SC} {S : Sl} {P : Nat → Prop}, SlAt w C S → Only P w W → (∀ k, C.all k → ¬ P k) → SlAt W C S
  wrote : ∀ {w W : World} {C : SC} {S : Sl} {P : Nat → Prop} {f : Nat → UInt8}, SlAt w C S → Only P w W → (∀ k, C.own k → ¬ P k) → RowAt W C.b 256 (byV f) → SlI { S with bt := f } → SlAt W C { S with bt := f }
  byt : ∀ {w : World} {C : SC} {S : Sl}, SlAt w C S → RowAt w C.b 256 (byV S.bt)
  inv : ∀ {w : World} {C : SC} {S : Sl}, SlAt w C S → SlI S
  lt : ∀ {w : World} {C : SC} {S : Sl}, SlAt w C S → ∀ k, C.all k → k < w.heap.size
  nb : ∀ {w : World} {C : SC} {S : Sl}, SlAt w C S → ¬ C.own C.b
  newNo : ∀ (a : Option Addr) (n c : Nat) (size colour : Int) (w : World), n ≠ 256 ∨ mayC size colour = false → Calls Try.prog 37 #[.slice a n c, .int .i64 size, .int .i64 colour] w (STold w (.tuple #[.pointer none, .int .i64 2]))
  new : ∀ (sz co bb bc : Nat) (f : Nat → UInt8) (w : World), mayC sz co = true → 256 ≤ bc → RowAt w bb 256 (byV f) → Calls Try.prog 37 #[.slice (some ⟨bb, 0, none⟩) 256 bc, .int .i64 sz, .int .i64 co] w (SNew SlAt w bb bc (Sl.new sz co f))
  take : ∀ {w : World} {C : SC} {S : Sl}, SlAt w C S → Calls Try.prog 43 #[.pointer (some ⟨C.s, 0, none⟩)] w (SPost2 SlAt w C S.take)
  give : ∀ {w : World} {C : SC} {S : Sl} (i : Int), SlAt w C S → Calls Try.prog 45 #[.pointer (some ⟨C.s, 0, none⟩), .int .i64 i] w (SPost1 SlAt w C (S.give i))
  mark : ∀ {w : World} {C : SC} {S : Sl} (i t : Int), SlAt w C S → Calls Try.prog 23 #[.pointer (some ⟨C.s, 0, none⟩), .int .i64 i, .int .u64 t] w (SPost1 SlAt w C (S.mark i t))
  clr : ∀ {w : World} {C : SC} {S : Sl} (i : Int), SlAt w C S → Calls Try.prog 25 #[.pointer (some ⟨C.s, 0, none⟩), .int .i64 i] w (SPost1 SlAt w C (S.clr i))
  live : ∀ {w : World} {C : SC} {S : Sl} (i : Int), SlAt w C S → Calls Try.prog 48 #[.pointer (some ⟨C.s, 0, none⟩), .int .i64 i] w (STold w (.tuple #[.int .u64 (S.live i).1, .bool (S.live i).2]))
  place : ∀ {w : World} {C : SC} {S : Sl} (i : Int), SlAt w C S → Calls Try.prog 62 #[.pointer (some ⟨C.s, 0, none⟩), .int .i64 i] w (STold w (.tuple #[.int .i64 (S.place i).1, .int .i64 (S.place i).2]))
  count : ∀ {w : World} {C : SC} {S : Sl}, SlAt w C S → Calls Try.prog 30 #[.pointer (some ⟨C.s, 0, none⟩)] w (STold w (.int .i64 S.n))
  size : ∀ {w : World} {C : SC} {S : Sl}, SlAt w C S → Calls Try.prog 51 #[.pointer (some ⟨C.s, 0, none⟩)] w (STold w (.int .i64 S.sz))
  colour : ∀ {w : World} {C : SC} {S : Sl}, SlAt w C S → Calls Try.prog 29 #[.pointer (some ⟨C.s, 0, none⟩)] w (STold w (.int .i64 S.co))
  free : ∀ {w : World} {C : SC} {S : Sl}, SlAt w C S → Calls Try.prog 34 #[.pointer (some ⟨C.s, 0, none⟩)] w (STold w (.int .i64 S.ch.length))
  chain : ∀ {w : World} {C : SC} {S : Sl}, SlAt w C S → Calls Try.prog 52 #[.pointer (some ⟨C.s, 0, none⟩)] w (SChain w S.ch)
/-- A slab in a law's world: all its blocks lie above B. -/
structure LAt (SlAt : World → SC → Sl → Prop) (B : Nat) (w : World) (C : SC) (S : Sl) (W : World) : Prop where
  at_ : SlAt W C S
  bel : Below B w W
  low : ∀ k, C.all k → B ≤ k
  le : B ≤ W.heap.size
section
variable {SlAt : World → SC → Sl → Prop} {B : Nat} {w W W' : World} {C : SC} {S S' : Sl}
theorem LAt.later (K : ChainOk SlAt) (H : LAt SlAt B w C S W) (h : Below W.heap.size W W') : LAt SlAt B w C S W' :=
  ⟨K.later H.at_ h, H.bel.trans (h.mono H.le), H.low, Nat.le_trans H.le h.size⟩
theorem LAt.turn (H : LAt SlAt B w C S W) (A : SlAt W' C S') (ho : Only C.all W W') : LAt SlAt B w C S' W' :=
  ⟨A, ho.below H.bel H.le H.low, H.low, Nat.le_trans H.le ho.size⟩
theorem LAt.only (K : ChainOk SlAt) {P : Nat → Prop} (H : LAt SlAt B w C S W) (ho : Only P W W') (h1 : ∀ k, C.all k → ¬ P k) (h2 : ∀ k, P k → B ≤ k) : LAt SlAt B w C S W' :=
  ⟨K.only H.at_ ho h1, ho.below H.bel H.le h2, H.low, Nat.le_trans H.le ho.size⟩
theorem LAt.bytes (K : ChainOk SlAt) (H : LAt SlAt B w C S W) {f : Nat → UInt8} (ho : Only (fun k => k = C.b) W W') (hr : RowAt W' C.b 256 (byV f)) (hI : SlI { S with bt := f }) : LAt SlAt B w C { S with bt := f } W' :=
  ⟨K.wrote H.at_ ho (fun k hk e => K.nb H.at_ (by rw [← e]; exact hk)) hr hI, ho.below H.bel H.le (fun k hk => by rw [hk]; exact H.low _ (.inr rfl)), H.low, Nat.le_trans H.le ho.size⟩
theorem LAt.ends (H : LAt SlAt B w C S W) (h : Below W.heap.size W W') : Below B w W' := H.bel.trans (h.mono H.le)
/-- A slab that was made in the law's world of bytes of the law's own. -/
theorem LAt.new {bb bc : Nat} (hb : Below B w W) (hle : B ≤ W.heap.size) (hbb : B ≤ bb) {e : Ending} (h : SNew SlAt W bb bc S e W') : ∃ C : SC, e = .returned (.tuple #[.pointer (some ⟨C.s, 0, none⟩), .int .i64 0]) ∧ C.b = bb ∧ C.bc = bc ∧ LAt SlAt B w C S W' ∧ Only (fun k => k = bb) W W' ∧ ∀ k, C.own k → W.heap.size ≤ k := by
  obtain ⟨C, e1, e2, e3, A, ho, hl⟩ := h
  exact ⟨C, e1, e2, e3, ⟨A, ho.below hb hle (fun k hk => by rw [hk]; exact hbb), fun k hk => by
    rcases hk with hk | hk
    · exact Nat.le_trans hle (hl k hk)
    · rw [hk, e2]; exact hbb, Nat.le_trans hle ho.size⟩, ho, hl⟩
end
end Go.Proofs.Ytlimbcpghfddkaa
