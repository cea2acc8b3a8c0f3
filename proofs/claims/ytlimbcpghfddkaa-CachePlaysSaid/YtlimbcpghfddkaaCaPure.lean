/-
  cache, pure: slabs by rising frames; what is found, taken, given, dropped.
-/
import Derived.Test.YtlimbcpghfddkaaChPure
import Derived.Test.YtlimbcpghfddkaaChRefG
namespace Go.Proofs.Ytlimbcpghfddkaa

/-- A frame, and its slab. -/
structure Pl where
  fr : Int
  S : Sl
def Pl.prt (p : Pl) : Bool := decide (0 < p.S.ch.length) && !decide (p.S.ch.length = p.S.n)
def Pl.emp (p : Pl) : Bool := decide (p.S.ch.length = p.S.n)
def Pl.all (_ : Pl) : Bool := true
def Rise (l : List Pl) : Prop := l.Pairwise fun a b => a.fr < b.fr
def findL : List Pl → Int → Option Sl
  | [], _ => none
  | p :: r, x => if p.fr = x then some p.S else findL r x
def setL (l : List Pl) (x : Int) (S : Sl) : List Pl := l.map fun p => if p.fr = x then ⟨p.fr, S⟩ else p
def cutL (l : List Pl) (x : Int) : List Pl := l.filter fun p => !decide (p.fr = x)
def insL : List Pl → Pl → List Pl
  | [], p => [p]
  | q :: r, p => if q.fr < p.fr then q :: insL r p else p :: q :: r
def pickL (l : List Pl) : Option Pl := (l.find? Pl.prt).or (l.find? Pl.emp)
/-- The frames of those that are so. -/
def frsL (f : Pl → Bool) (l : List Pl) : List Int := (l.filter f).map Pl.fr
/-- A cache. -/
structure Ca where
  sz : Nat
  co : Nat
  L : List Pl
structure CaI (A : Ca) : Prop where
  may : mayC A.sz A.co = true
  rise : Rise A.L
  sz : ∀ p ∈ A.L, p.S.sz = A.sz
  inv : ∀ p ∈ A.L, SlI p.S
  nn : ∀ p ∈ A.L, 0 ≤ p.fr
def Ca.nextCo (A : Ca) : Nat := if mayC A.sz (A.co + 8 : Nat) = true then A.co + 8 else 0
def Ca.added (A : Ca) (x : Int) (f : Nat → UInt8) : Ca := ⟨A.sz, A.nextCo, insL A.L ⟨x, Sl.new A.sz A.co f⟩⟩
def Ca.turned (A : Ca) (x : Int) (S : Sl) : Ca := ⟨A.sz, A.co, setL A.L x S⟩
def Ca.cutted (A : Ca) (x : Int) : Ca := ⟨A.sz, A.co, cutL A.L x⟩
def Ca.take (A : Ca) : Int × Int × Int × Ca :=
  match pickL A.L with
  | none => (0, 0, 7, A)
  | some p => (p.fr, p.S.take.1, 0, A.turned p.fr p.S.take.2.2)
def Ca.give (A : Ca) (x i : Int) : Int × Ca :=
  match findL A.L x with
  | none => (7, A)
  | some S => ((S.give i).1, A.turned x (S.give i).2)
def Ca.drop (A : Ca) (x : Int) : Int × Ca :=
  match findL A.L x with
  | none => (7, A)
  | some S => if S.ch.length = S.n then (0, A.cutted x) else (80, A)

section
variable {l : List Pl} {x : Int} {S : Sl}
theorem Rise.tail {p : Pl} (h : Rise (p :: l)) : Rise l := (List.pairwise_cons.1 h).2
theorem findL_mem (h : findL l x = some S) : ⟨x, S⟩ ∈ l := by
  induction l with
  | nil => cases h
  | cons p r ih =>
    unfold findL at h
    split at h
    · rename_i e
      injection h with h
      subst e
      subst h
      exact List.mem_cons_self
    · exact List.mem_cons_of_mem _ (ih h)
theorem findL_of (hr : Rise l) {p : Pl} (h : p ∈ l) : findL l p.fr = some p.S := by
  induction l with
  | nil => cases h
  | cons q r ih =>
    unfold findL
    rcases List.mem_cons.1 h with e | e
    · subst e
      rw [if_pos rfl]
    · have := (List.pairwise_cons.1 hr).1 p e
      rw [if_neg (by omega)]
      exact ih hr.tail e
theorem findL_none (h : findL l x = none) : ∀ p ∈ l, p.fr ≠ x := by
  induction l with
  | nil => exact fun p hp => absurd hp List.not_mem_nil
  | cons q r ih =>
    unfold findL at h
    split at h
    · cases h
    · rename_i e
      intro p hp
      rcases List.mem_cons.1 hp with e2 | e2
      · subst e2
        exact e
      · exact ih h p e2
theorem findL_no (h : ∀ p ∈ l, p.fr ≠ x) : findL l x = none := by
  cases e : findL l x with
  | none => rfl
  | some S => exact absurd rfl (h _ (findL_mem e))
theorem mem_setL {p : Pl} : p ∈ setL l x S → (p ∈ l ∧ p.fr ≠ x) ∨ (p = ⟨x, S⟩ ∧ ∃ q ∈ l, q.fr = x) := by
  unfold setL
  rw [List.mem_map]
  rintro ⟨q, hq, rfl⟩
  by_cases e : q.fr = x
  · rw [if_pos e]
    exact .inr ⟨by rw [e], q, hq, e⟩
  · rw [if_neg e]
    exact .inl ⟨hq, e⟩
theorem setL_fr (l : List Pl) (x : Int) (S : Sl) : (setL l x S).map Pl.fr = l.map Pl.fr := by
  unfold setL
  rw [List.map_map]
  refine List.map_congr_left fun p _ => ?_
  show (if p.fr = x then (⟨p.fr, S⟩ : Pl) else p).fr = p.fr
  split <;> rfl
theorem setL_len (l : List Pl) (x : Int) (S : Sl) : (setL l x S).length = l.length := by unfold setL; rw [List.length_map]
theorem rise_fr {l m : List Pl} (h : Rise l) (e : m.map Pl.fr = l.map Pl.fr) : Rise m := by
  unfold Rise at *
  rw [← List.pairwise_map (f := Pl.fr) (R := fun a b => a < b)] at *
  rw [e]
  exact h
theorem Rise.set (h : Rise l) (x : Int) (S : Sl) : Rise (setL l x S) := rise_fr h (setL_fr l x S)
theorem Rise.cut (h : Rise l) (x : Int) : Rise (cutL l x) := h.filter _
theorem mem_cutL {p : Pl} : p ∈ cutL l x ↔ p ∈ l ∧ p.fr ≠ x := by
  unfold cutL
  rw [List.mem_filter]
  simp
theorem mem_insL {p q : Pl} : q ∈ insL l p ↔ q = p ∨ q ∈ l := by
  induction l with
  | nil => simp [insL]
  | cons a r ih =>
    unfold insL
    split
    · rw [List.mem_cons, ih, List.mem_cons]
      constructor
      · rintro (h | h | h)
        · exact .inr (.inl h)
        · exact .inl h
        · exact .inr (.inr h)
      · rintro (h | h | h)
        · exact .inr (.inl h)
        · exact .inl h
        · exact .inr (.inr h)
    · rw [List.mem_cons]
theorem insL_len (p : Pl) : (insL l p).length = l.length + 1 := by
  induction l with
  | nil => rfl
  | cons a r ih =>
    unfold insL
    split
    · rw [List.length_cons, ih, List.length_cons]
    · rfl
theorem Rise.ins {p : Pl} (h : Rise l) (hn : ∀ q ∈ l, q.fr ≠ p.fr) : Rise (insL l p) := by
  induction l with
  | nil => exact List.pairwise_singleton _ _
  | cons a r ih =>
    have h1 := List.pairwise_cons.1 h
    unfold insL
    split
    · rename_i hlt
      refine List.pairwise_cons.2 ⟨fun q hq => ?_, ih h.tail (fun q hq => hn q (List.mem_cons_of_mem _ hq))⟩
      rcases mem_insL.1 hq with e | e
      · subst e
        exact hlt
      · exact h1.1 q e
    · rename_i hlt
      have h2 := hn a List.mem_cons_self
      refine List.pairwise_cons.2 ⟨fun q hq => ?_, h⟩
      rcases List.mem_cons.1 hq with e | e
      · subst e
        omega
      · have := h1.1 q e
        omega
/-- Where a place is laid in. -/
theorem insL_at (p : Pl) : ∀ (l : List Pl) (k : Nat), k ≤ l.length → (∀ j (h : j < l.length), j < k → l[j].fr < p.fr) → (∀ h : k < l.length, ¬ l[k].fr < p.fr) → insL l p = l.take k ++ p :: l.drop k
  | [], k, hk, _, _ => by
    have : k = 0 := by simpa using hk
    subst this
    rfl
  | a :: r, 0, _, _, h2 => by
    unfold insL
    rw [if_neg (by have := h2 (by simp); simpa using this)]
    rfl
  | a :: r, k + 1, hk, h1, h2 => by
    have e := insL_at p r k (by simpa using hk) (fun j h hj => by have := h1 (j + 1) (by simpa using h) (by omega); simpa using this) (fun h => by have := h2 (by simpa using h); simpa using this)
    unfold insL
    rw [if_pos (by have := h1 0 (by simp) (by omega); simpa using this), e]
    rfl
theorem cutL_at (h : Rise l) {k : Nat} (hk : k < l.length) : cutL l (l[k].fr) = l.take k ++ l.drop (k + 1) := by
  induction l generalizing k with
  | nil => simp at hk
  | cons a r ih =>
    have h1 := List.pairwise_cons.1 h
    cases k with
    | zero =>
      unfold cutL
      rw [List.getElem_cons_zero, List.filter_cons_of_neg (by simp)]
      rw [List.filter_eq_self.2 (fun q hq => by have := h1.1 q hq; simp; omega)]
      rfl
    | succ k =>
      have hk2 : k < r.length := by simpa using hk
      have e := ih h.tail hk2
      unfold cutL at e ⊢
      rw [List.getElem_cons_succ, List.filter_cons_of_pos (by
        have := h1.1 r[k] (List.getElem_mem hk2)
        simp; omega), e]
      rfl
theorem findL_at (h : Rise l) {k : Nat} (hk : k < l.length) : findL l l[k].fr = some l[k].S := findL_of h (List.getElem_mem hk)
theorem findL_set (h : Rise l) {y : Int} : findL (setL l x S) y = if y = x then (findL l x).map (fun _ => S) else findL l y := by
  induction l with
  | nil => show none = _; split <;> rfl
  | cons p r ih =>
    have ih := ih h.tail
    show findL ((if p.fr = x then (⟨p.fr, S⟩ : Pl) else p) :: setL r x S) y = _
    by_cases e : p.fr = x
    · rw [if_pos e]
      unfold findL
      rw [if_pos e]
      by_cases e2 : y = x
      · subst e2
        rw [if_pos e, if_pos rfl]
        rfl
      · rw [if_neg (show ¬ p.fr = y by omega), if_neg e2, ih, if_neg e2, if_neg (show ¬ p.fr = y by omega)]
    · rw [if_neg e]
      unfold findL
      rw [if_neg e]
      by_cases e2 : y = x
      · subst e2
        rw [if_neg e, ih, if_pos rfl, if_pos rfl]
      · rw [ih, if_neg e2, if_neg e2]
theorem findL_cut (h : Rise l) {y : Int} : findL (cutL l x) y = if y = x then none else findL l y := by
  by_cases e : y = x
  · rw [if_pos e]
    exact findL_no fun p hp => by rw [e]; exact (mem_cutL.1 hp).2
  · rw [if_neg e]
    cases hf : findL l y with
    | none => exact findL_no fun p hp => findL_none hf p (mem_cutL.1 hp).1
    | some S => exact findL_of (h.cut x) (p := ⟨y, S⟩) (mem_cutL.2 ⟨findL_mem hf, e⟩)
theorem findL_ins (h : Rise l) {p : Pl} (hn : ∀ q ∈ l, q.fr ≠ p.fr) {y : Int} : findL (insL l p) y = if y = p.fr then some p.S else findL l y := by
  have hr := h.ins hn
  by_cases e : y = p.fr
  · rw [if_pos e, e]
    exact findL_of hr (mem_insL.2 (.inl rfl))
  · rw [if_neg e]
    cases hf : findL l y with
    | none =>
      refine findL_no fun q hq => ?_
      rcases mem_insL.1 hq with e2 | e2
      · rw [e2]
        omega
      · exact findL_none hf q e2
    | some S => exact findL_of hr (p := ⟨y, S⟩) (mem_insL.2 (.inr (findL_mem hf)))
theorem pick_mem {p : Pl} (h : pickL l = some p) : p ∈ l := by
  unfold pickL at h
  cases e : l.find? Pl.prt with
  | none =>
    rw [e] at h
    exact List.mem_of_find?_eq_some h
  | some q =>
    rw [e] at h
    injection h with h
    subst h
    exact List.mem_of_find?_eq_some e
theorem pick_free {p : Pl} (h : pickL l = some p) (hI : SlI p.S) : 0 < p.S.ch.length := by
  unfold pickL at h
  cases e : l.find? Pl.prt with
  | none =>
    rw [e] at h
    have h1 := List.find?_some h
    unfold Pl.emp at h1
    have h2 := of_decide_eq_true h1
    have := hI.parts.2.2.2.2
    omega
  | some q =>
    rw [e] at h
    injection h with h
    subst h
    have h1 := List.find?_some e
    unfold Pl.prt at h1
    simp at h1
    exact h1.1
theorem pick_head (l : List Pl) : (frsL Pl.prt l ++ frsL Pl.emp l).head? = (pickL l).map Pl.fr := by
  unfold frsL pickL
  rw [List.head?_append, List.head?_map, List.head?_map, List.head?_filter, List.head?_filter]
  cases l.find? Pl.prt <;> cases l.find? Pl.emp <;> rfl
end
section
variable {A : Ca} {x : Int} {S : Sl}
theorem take_ok (h : 0 < S.ch.length) : S.take.2.1 = 0 := by
  unfold Sl.take
  cases e : S.ch with
  | nil => rw [e] at h; exact absurd h (Nat.lt_irrefl _)
  | cons i r => rfl
theorem take_sz (S : Sl) : S.take.2.2.sz = S.sz := by
  unfold Sl.take
  split <;> rfl
theorem give_sz (S : Sl) (i : Int) : (S.give i).2.sz = S.sz := by
  unfold Sl.give
  repeat' split
  all_goals rfl
theorem mark_sz (S : Sl) (i t : Int) : (S.mark i t).2.sz = S.sz := by
  unfold Sl.mark
  repeat' split
  all_goals rfl
theorem clr_sz (S : Sl) (i : Int) : (S.clr i).2.sz = S.sz := by
  unfold Sl.clr
  repeat' split
  all_goals rfl
theorem CaI.turned (I : CaI A) (hI : SlI S) (hs : S.sz = A.sz) : CaI (A.turned x S) := by
  refine ⟨I.may, I.rise.set x S, fun p hp => ?_, fun p hp => ?_, fun p hp => ?_⟩
  · rcases mem_setL hp with ⟨h, _⟩ | ⟨h, _⟩
    · exact I.sz p h
    · rw [h]
      exact hs
  · rcases mem_setL hp with ⟨h, _⟩ | ⟨h, _⟩
    · exact I.inv p h
    · rw [h]
      exact hI
  · rcases mem_setL hp with ⟨h, _⟩ | ⟨h, q, hq, e⟩
    · exact I.nn p h
    · rw [h]
      have := I.nn q hq
      show 0 ≤ x
      omega
theorem CaI.cutted (I : CaI A) : CaI (A.cutted x) :=
  ⟨I.may, I.rise.cut x, fun p hp => I.sz p (mem_cutL.1 hp).1, fun p hp => I.inv p (mem_cutL.1 hp).1, fun p hp => I.nn p (mem_cutL.1 hp).1⟩
theorem may_zero {sz co : Nat} (h : mayC sz co = true) : mayC sz (0 : Nat) = true := by
  unfold mayC at *
  obtain ⟨h1, h2, h3, h4, h5, h6⟩ := of_decide_eq_true h
  have := Int.emod_nonneg 256 (show (sz : Int) ≠ 0 by omega)
  exact decide_eq_true ⟨h1, h2, h3, by decide, by decide, by omega⟩
theorem CaI.next (I : CaI A) : mayC A.sz A.nextCo = true := by
  unfold Ca.nextCo
  split
  · rename_i h
    exact h
  · exact may_zero I.may
theorem new_sz (sz co : Nat) (f : Nat → UInt8) : (Sl.new sz co f).sz = sz := rfl
theorem CaI.added (I : CaI A) (hx : 0 ≤ x) (hn : findL A.L x = none) (f : Nat → UInt8) : CaI (A.added x f) := by
  refine ⟨I.next, I.rise.ins (findL_none hn), fun p hp => ?_, fun p hp => ?_, fun p hp => ?_⟩
  · rcases mem_insL.1 hp with h | h
    · rw [h]
      rfl
    · exact I.sz p h
  · rcases mem_insL.1 hp with h | h
    · rw [h]
      exact SlI.new I.may f
    · exact I.inv p h
  · rcases mem_insL.1 hp with h | h
    · rw [h]
      exact hx
    · exact I.nn p h
theorem CaI.find (I : CaI A) (h : findL A.L x = some S) : SlI S ∧ S.sz = A.sz := ⟨I.inv _ (findL_mem h), I.sz _ (findL_mem h)⟩
theorem CaI.take (I : CaI A) : CaI A.take.2.2.2 := by
  unfold Ca.take
  cases e : pickL A.L with
  | none => exact I
  | some p =>
    have h := pick_mem e
    exact I.turned (I.inv p h).take (by rw [take_sz]; exact I.sz p h)
theorem CaI.give (I : CaI A) (x i : Int) : CaI (A.give x i).2 := by
  unfold Ca.give
  cases e : findL A.L x with
  | none => exact I
  | some S =>
    obtain ⟨h1, h2⟩ := I.find e
    exact I.turned (h1.give i) (by rw [give_sz]; exact h2)
theorem CaI.drop (I : CaI A) (x : Int) : CaI (A.drop x).2 := by
  unfold Ca.drop
  cases e : findL A.L x with
  | none => exact I
  | some S =>
    dsimp only
    split
    · exact I.cutted
    · exact I
/-- How many slabs there are, behind a call. -/
theorem take_len (A : Ca) : A.take.2.2.2.L.length = A.L.length := by
  unfold Ca.take
  split
  · rfl
  · exact setL_len _ _ _
theorem give_len (A : Ca) (x i : Int) : (A.give x i).2.L.length = A.L.length := by
  unfold Ca.give
  split
  · rfl
  · exact setL_len _ _ _
theorem drop_len (A : Ca) (x : Int) : (A.drop x).2.L.length ≤ A.L.length := by
  unfold Ca.drop
  split
  · exact Nat.le_refl _
  · split
    · exact List.length_filter_le _ _
    · exact Nat.le_refl _
end
end Go.Proofs.Ytlimbcpghfddkaa
