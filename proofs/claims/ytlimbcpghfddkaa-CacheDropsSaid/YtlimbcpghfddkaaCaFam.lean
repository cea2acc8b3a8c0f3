/-
  Slabs by frames, as they lie: none touches another one. For whatever way a slab lies.
-/
import Derived.Test.YtlimbcpghfddkaaCaPure
import Derived.Test.YtlimbcpghfddkaaChAtN
namespace Go.Proofs.Ytlimbcpghfddkaa
open Go.RowKit Go

def updI {X : Type} (g : Int → X) (x : Int) (v : X) : Int → X := fun y => if y = x then v else g y
theorem updI_same {X : Type} (g : Int → X) (x : Int) (v : X) : updI g x v x = v := by unfold updI; rw [if_pos rfl]
theorem updI_other {X : Type} (g : Int → X) {x y : Int} (h : y ≠ x) (v : X) : updI g x v y = g y := by unfold updI; rw [if_neg h]
theorem updI_self {X : Type} (g : Int → X) (x : Int) : updI g x (g x) = g := by
  funext y
  unfold updI
  split
  · rename_i h
    rw [h]
  · rfl
/-- All slabs of a list lie as they should, apart, and aside of H. -/
structure Fam {X : Type} (At : World → X → Sl → Prop) (all : X → Nat → Prop) (w : World) (H : Nat → Prop) (g : Int → X) (L : List Pl) : Prop where
  at_ : ∀ p ∈ L, At w (g p.fr) p.S
  dis : ∀ p ∈ L, ∀ q ∈ L, p.fr ≠ q.fr → ∀ k, all (g p.fr) k → ¬ all (g q.fr) k
  off : ∀ p ∈ L, ∀ k, all (g p.fr) k → ¬ H k
structure FamOk {X : Type} (At : World → X → Sl → Prop) (all : X → Nat → Prop) : Prop where
  only : ∀ {w W : World} {C : X} {S : Sl} {P : Nat → Prop}, At w C S → Only P w W → (∀ k, all C k → ¬ P k) → At W C S
  lt : ∀ {w : World} {C : X} {S : Sl}, At w C S → ∀ k, all C k → k < w.heap.size
/-- All blocks of a family. -/
def famB {X : Type} (all : X → Nat → Prop) (g : Int → X) (L : List Pl) (k : Nat) : Prop := ∃ p ∈ L, all (g p.fr) k
section
variable {X : Type} {At : World → X → Sl → Prop} {all : X → Nat → Prop} {w W : World} {H H' : Nat → Prop} {g : Int → X} {L : List Pl}
theorem Fam.only (K : FamOk At all) (F : Fam At all w H g L) {P : Nat → Prop} (ho : Only P w W) (h : ∀ k, famB all g L k → ¬ P k) : Fam At all W H g L :=
  ⟨fun p hp => K.only (F.at_ p hp) ho (fun k hk => h k ⟨p, hp, hk⟩), F.dis, F.off⟩
theorem Fam.later (K : FamOk At all) (F : Fam At all w H g L) (h : Below w.heap.size w W) : Fam At all W H g L :=
  F.only K (Only.of_below (S := fun _ => False) h) (fun _ _ h => h)
theorem Fam.head (F : Fam At all w H g L) (h : ∀ k, H' k → H k ∨ ¬ famB all g L k) : Fam At all w H' g L :=
  ⟨F.at_, F.dis, fun p hp k hk hH => (h k hH).elim (F.off p hp k hk) (fun hn => hn ⟨p, hp, hk⟩)⟩
theorem Fam.sub (F : Fam At all w H g L) {M : List Pl} (h : ∀ p ∈ M, p ∈ L) : Fam At all w H g M :=
  ⟨fun p hp => F.at_ p (h p hp), fun p hp q hq => F.dis p (h p hp) q (h q hq), fun p hp => F.off p (h p hp)⟩
theorem Fam.lt (K : FamOk At all) (F : Fam At all w H g L) : ∀ k, famB all g L k → k < w.heap.size := fun k ⟨p, hp, hk⟩ => K.lt (F.at_ p hp) k hk
/-- One slab turns. -/
theorem Fam.turn (K : FamOk At all) (F : Fam At all w H g L) {p : Pl} (hp : p ∈ L) {C : X} {S : Sl} {P : Nat → Prop} (A : At W C S) (ho : Only P w W) (hP : ∀ k, P k → all (g p.fr) k) (hn : ∀ k, all C k → all (g p.fr) k ∨ w.heap.size ≤ k) (hH : ∀ k, H k → k < w.heap.size) :
    Fam At all W H (updI g p.fr C) (setL L p.fr S) := by
  have key : ∀ q ∈ setL L p.fr S, (q ∈ L ∧ q.fr ≠ p.fr ∧ updI g p.fr C q.fr = g q.fr) ∨ (q = ⟨p.fr, S⟩ ∧ updI g p.fr C q.fr = C) := fun q hq => by
    rcases mem_setL hq with ⟨h1, h2⟩ | ⟨h1, _⟩
    · exact .inl ⟨h1, h2, updI_other g h2 C⟩
    · exact .inr ⟨h1, by rw [h1]; exact updI_same g _ C⟩
  refine ⟨fun q hq => ?_, fun q hq s hs hne k hk => ?_, fun q hq k hk => ?_⟩
  · rcases key q hq with ⟨h1, h2, e⟩ | ⟨h1, e⟩
    · rw [e]
      exact K.only (F.at_ q h1) ho (fun k hk hx => F.dis q h1 p hp h2 k hk (hP k hx))
    · rw [e, h1]
      exact A
  · rcases key q hq with ⟨h1, h2, e⟩ | ⟨h1, e⟩
    · rw [e] at hk
      rcases key s hs with ⟨i1, i2, e2⟩ | ⟨i1, e2⟩
      · rw [e2]
        exact F.dis q h1 s i1 hne k hk
      · rw [e2]
        intro hx
        rcases hn k hx with h | h
        · exact F.dis q h1 p hp h2 k hk h
        · have := K.lt (F.at_ q h1) k hk
          omega
    · rw [e] at hk
      rcases key s hs with ⟨i1, i2, e2⟩ | ⟨i1, e2⟩
      · rw [e2]
        intro hx
        rcases hn k hk with h | h
        · exact F.dis s i1 p hp i2 k hx h
        · have := K.lt (F.at_ s i1) k hx
          omega
      · exact absurd (by rw [h1, i1]) hne
  · rcases key q hq with ⟨h1, h2, e⟩ | ⟨h1, e⟩
    · rw [e] at hk
      exact F.off q h1 k hk
    · rw [e] at hk
      intro hx
      rcases hn k hk with h | h
      · exact F.off p hp k h hx
      · have := hH k hx
        omega
/-- One slab more. -/
theorem Fam.add (F : Fam At all w H g L) {x : Int} (hx : ∀ p ∈ L, p.fr ≠ x) {C : X} {S : Sl} (A : At w C S) (h1 : ∀ k, all C k → ¬ famB all g L k) (h2 : ∀ k, all C k → ¬ H k) :
    Fam At all w H (updI g x C) (insL L ⟨x, S⟩) := by
  have key : ∀ q ∈ insL L ⟨x, S⟩, (q ∈ L ∧ updI g x C q.fr = g q.fr) ∨ (q = ⟨x, S⟩ ∧ updI g x C q.fr = C) := fun q hq => by
    rcases mem_insL.1 hq with h | h
    · exact .inr ⟨h, by rw [h]; exact updI_same g _ C⟩
    · exact .inl ⟨h, updI_other g (hx q h) C⟩
  refine ⟨fun q hq => ?_, fun q hq s hs hne k hk => ?_, fun q hq k hk => ?_⟩
  · rcases key q hq with ⟨i, e⟩ | ⟨i, e⟩
    · rw [e]
      exact F.at_ q i
    · rw [e, i]
      exact A
  · rcases key q hq with ⟨i, e⟩ | ⟨i, e⟩
    · rw [e] at hk
      rcases key s hs with ⟨j, e2⟩ | ⟨j, e2⟩
      · rw [e2]
        exact F.dis q i s j hne k hk
      · rw [e2]
        exact fun hc => h1 k hc ⟨q, i, hk⟩
    · rw [e] at hk
      rcases key s hs with ⟨j, e2⟩ | ⟨j, e2⟩
      · rw [e2]
        exact fun hc => h1 k hk ⟨s, j, hc⟩
      · exact absurd (by rw [i, j]) hne
  · rcases key q hq with ⟨i, e⟩ | ⟨i, e⟩
    · rw [e] at hk
      exact F.off q i k hk
    · rw [e] at hk
      exact h2 k hk
theorem Fam.nil : Fam At all w H g [] := ⟨fun _ h => absurd h List.not_mem_nil, fun _ h => absurd h List.not_mem_nil, fun _ h => absurd h List.not_mem_nil⟩
theorem famB_turn {p : Pl} {C : X} {S : Sl} {k : Nat} (h : famB all (updI g p.fr C) (setL L p.fr S) k) : famB all g L k ∨ all C k := by
  obtain ⟨q, hq, hk⟩ := h
  rcases mem_setL hq with ⟨h1, h2⟩ | ⟨h1, _⟩
  · rw [updI_other g h2] at hk
    exact .inl ⟨q, h1, hk⟩
  · rw [h1] at hk
    rw [show updI g p.fr C (⟨p.fr, S⟩ : Pl).fr = C from updI_same g _ C] at hk
    exact .inr hk
theorem famB_add {x : Int} (hx : ∀ p ∈ L, p.fr ≠ x) {C : X} {S : Sl} {k : Nat} (h : famB all (updI g x C) (insL L ⟨x, S⟩) k) : famB all g L k ∨ all C k := by
  obtain ⟨q, hq, hk⟩ := h
  rcases mem_insL.1 hq with h1 | h1
  · rw [h1] at hk
    rw [show updI g x C (⟨x, S⟩ : Pl).fr = C from updI_same g _ C] at hk
    exact .inr hk
  · rw [updI_other g (hx q h1)] at hk
    exact .inl ⟨q, h1, hk⟩
theorem famB_sub {M : List Pl} (h : ∀ p ∈ M, p ∈ L) {k : Nat} (hk : famB all g M k) : famB all g L k := by
  obtain ⟨p, hp, hk⟩ := hk
  exact ⟨p, h p hp, hk⟩
end
/-- The program's slabs. -/
theorem famP : FamOk SlAt SC.all := ⟨fun H ho h => chain_ok.only H ho h, fun H => chain_ok.lt H⟩
/-- The document's slabs. -/
structure SD where
  r : Nat
  b : Nat
  bc : Nat
  v : Value
def SD.all (D : SD) (k : Nat) : Prop := k = D.r ∨ k = D.b ∨ inC D.v k
def DsAt (w : World) (D : SD) (S : Sl) : Prop := CRef w D.r D.b D.bc S D.v
theorem famD : FamOk DsAt SD.all := by
  refine ⟨fun {w W D S P} H ho h => ?_, fun {w D S} H k hk => ?_⟩
  · refine ⟨H.row.only ho (h _ (.inl rfl)), H.byt.only ho (h _ (.inr (.inl rfl))), ?_, H.ne⟩
    obtain ⟨a, c, e, hle, hh⟩ := H.chn
    refine ⟨a, c, e, hle, fun j hj => ?_⟩
    obtain ⟨b, o, e2, h1, h2, hc⟩ := hh j hj
    exact ⟨b, o, e2, h1, h2, ho.cell (h b (.inr (.inr ⟨o, S.ch.length, c, by rw [e, e2], by omega⟩))) hc⟩
  · rcases hk with hk | hk | ⟨o, n, c, e, hn⟩
    · rw [hk]
      exact H.row.lt
    · rw [hk]
      exact H.byt.lt
    · obtain ⟨a, c2, e2, hle, hh⟩ := H.chn
      rw [e] at e2
      injection e2 with e3 e4 _
      obtain ⟨b, o2, e5, h1, h2, hc⟩ := hh 0 (by omega)
      rw [e5] at e3
      injection e3 with e3
      injection e3 with e3 _ _
      rw [e3]
      exact World.block_lt_of_cell? _ _ hc
end Go.Proofs.Ytlimbcpghfddkaa
