/-
  chain, pure: a slab: size, colour, the chain, what is out, turns, bytes.
-/
import Derived.Test.YtlimbcpghfddkaaByt
namespace Go.Proofs.Ytlimbcpghfddkaa

def updC {α : Type} (f : Nat → α) (k : Nat) (x : α) (i : Nat) : α := if i = k then x else f i
theorem updC_same {α : Type} (f : Nat → α) (k : Nat) (x : α) : updC f k x k = x := by unfold updC; rw [if_pos rfl]
theorem updC_other {α : Type} (f : Nat → α) {k i : Nat} (h : i ≠ k) (x : α) : updC f k x i = f i := by unfold updC; rw [if_neg h]
/-- Size and colour may be. -/
def mayC (size colour : Int) : Bool := decide (8 ≤ size ∧ size ≤ 128 ∧ size % 8 = 0 ∧ 0 ≤ colour ∧ colour % 8 = 0 ∧ colour ≤ 256 % size)
/-- A slab. -/
structure Sl where
  sz : Nat
  co : Nat
  ch : List Nat
  out : Nat → Bool
  tu : Nat → Int
  bt : Nat → UInt8
def Sl.n (S : Sl) : Nat := (256 - S.co) / S.sz
def Sl.pos (S : Sl) (i : Nat) : Nat := S.co + i * S.sz
/-- The byte that tells the next one. -/
def nxt (l : List Nat) (j : Nat) : UInt8 := UInt8.ofNat (l.getD j 255)
structure SlI (S : Sl) : Prop where
  may : mayC S.sz S.co = true
  nd : S.ch.Nodup
  lt : ∀ i ∈ S.ch, i < S.n
  out : ∀ i, i < S.n → (S.out i = true ↔ i ∉ S.ch)
  link : ∀ j, j < S.ch.length → S.bt (S.pos (S.ch.getD j 0)) = nxt S.ch (j + 1)
  tu : ∀ i, i < S.n → S.tu i ≠ 0 → S.out i = true
theorem may_parts {size colour : Nat} (h : mayC size colour = true) : 8 ≤ size ∧ size ≤ 128 ∧ size % 8 = 0 ∧ colour % 8 = 0 ∧ colour < size ∧ colour ≤ 256 % size := by
  unfold mayC at h
  obtain ⟨h1, h2, h3, h4, h5, h6⟩ := of_decide_eq_true h
  have h7 : (256 : Int) % (size : Int) = ((256 % size : Nat) : Int) := by simp
  have h8 := Nat.mod_lt 256 (show 0 < size by omega)
  rw [h7] at h6
  omega
theorem cnt_le {size colour : Nat} (h : mayC size colour = true) : (256 - colour) / size ≤ 32 ∧ 1 ≤ (256 - colour) / size ∧ (256 - colour) / size * size + colour ≤ 256 ∧ 256 < ((256 - colour) / size + 1) * size + colour := by
  obtain ⟨h1, h2, h3, h4, h5, h6⟩ := may_parts h
  have e1 := Nat.div_mul_le_self (256 - colour) size
  have e2 := Nat.lt_mul_div_succ (256 - colour) (show 0 < size by omega)
  have e3 : (256 - colour) / size ≤ (256 - colour) / 8 := Nat.div_le_div_left h1 (by decide)
  have e4 : 1 ≤ (256 - colour) / size := (Nat.one_le_div_iff (by omega)).2 (by omega)
  refine ⟨by omega, e4, by omega, ?_⟩
  rw [Nat.mul_comm] at e2
  omega
section
variable {S : Sl}
theorem SlI.parts (I : SlI S) : 8 ≤ S.sz ∧ S.sz ≤ 128 ∧ S.co < 128 ∧ S.n ≤ 32 ∧ 1 ≤ S.n := by
  obtain ⟨h1, h2, _, _, h5, _⟩ := may_parts I.may
  obtain ⟨h6, h7, _⟩ := cnt_le I.may
  unfold Sl.n
  omega
theorem pos_fit (h : mayC S.sz S.co = true) {i : Nat} (hi : i < S.n) : S.pos i + S.sz ≤ 256 := by
  obtain ⟨_, _, h3, _⟩ := cnt_le h
  unfold Sl.n at hi
  unfold Sl.pos
  have h4 : (i + 1) * S.sz ≤ (256 - S.co) / S.sz * S.sz := Nat.mul_le_mul_right _ hi
  rw [Nat.add_mul] at h4
  omega
theorem SlI.fit (I : SlI S) {i : Nat} (hi : i < S.n) : S.pos i + S.sz ≤ 256 := pos_fit I.may hi
/-- Objects' bytes do not touch one another. -/
theorem pos_apart (S : Sl) {i j : Nat} (h : i < j) : S.pos i + S.sz ≤ S.pos j := by
  unfold Sl.pos
  have h4 : (i + 1) * S.sz ≤ j * S.sz := Nat.mul_le_mul_right _ h
  rw [Nat.add_mul] at h4
  omega
theorem pos_out (S : Sl) {i j p : Nat} (hne : i ≠ j) (h1 : S.pos i ≤ p) (h2 : p < S.pos i + S.sz) : ¬ (S.pos j ≤ p ∧ p < S.pos j + S.sz) := by
  rcases Nat.lt_or_gt_of_ne hne with h | h
  · have := pos_apart S h
    omega
  · have := pos_apart S h
    omega
theorem pos_ne (I : SlI S) {i j : Nat} (hne : i ≠ j) : S.pos i ≠ S.pos j := by
  have h8 := I.parts.1
  intro e
  exact pos_out S hne (Nat.le_refl _) (by omega) ⟨by omega, by omega⟩
theorem getD_mem {l : List Nat} {j d : Nat} (h : j < l.length) : l.getD j d ∈ l := by
  rw [List.getD_eq_getElem?_getD, List.getElem?_eq_getElem h]
  exact List.getElem_mem h
/-- The document's Take. -/
def Sl.take (S : Sl) : Int × Int × Sl :=
  match S.ch with
  | [] => (0, 9, S)
  | i :: r => ((i : Int), 0, { S with ch := r, out := updC S.out i true, bt := putB S.bt (S.pos i) S.sz (fun _ => 0) })
def Sl.has (S : Sl) (i : Int) : Bool := decide (0 ≤ i ∧ i < (S.n : Int))
def Sl.given (S : Sl) (i : Nat) : Sl := { S with ch := i :: S.ch, out := updC S.out i false, bt := updC S.bt (S.pos i) (nxt S.ch 0) }
def Sl.give (S : Sl) (i : Int) : Int × Sl :=
  if S.has i = false then (2, S)
  else if S.out i.toNat = false then (8, S)
  else if S.tu i.toNat ≠ 0 then (80, S)
  else (0, S.given i.toNat)
def Sl.mark (S : Sl) (i t : Int) : Int × Sl :=
  if S.has i = false ∨ t = 0 then (2, S)
  else if S.out i.toNat = false then (7, S)
  else if S.tu i.toNat ≠ 0 then (8, S)
  else (0, { S with tu := updC S.tu i.toNat t })
def Sl.clr (S : Sl) (i : Int) : Int × Sl :=
  if S.has i = false then (2, S)
  else if S.tu i.toNat = 0 then (7, S)
  else (0, { S with tu := updC S.tu i.toNat 0 })
def Sl.live (S : Sl) (i : Int) : Int × Bool := if S.has i = true ∧ S.tu i.toNat ≠ 0 then (S.tu i.toNat, true) else (0, false)
def Sl.place (S : Sl) (i : Int) : Int × Int := if S.has i = true then ((S.pos i.toNat : Int), (S.pos i.toNat + S.sz : Int)) else (0, 0)
theorem has_iff {i : Int} : S.has i = true ↔ 0 ≤ i ∧ i < (S.n : Int) := by
  unfold Sl.has
  rw [decide_eq_true_iff]
theorem has_nat {i : Nat} : S.has (i : Int) = true ↔ i < S.n := by
  rw [has_iff]
  omega
theorem has_no {i : Int} : S.has i = false ↔ i < 0 ∨ (S.n : Int) ≤ i := by
  unfold Sl.has
  rw [decide_eq_false_iff_not]
  omega
/-- Bytes of an object that is out may be whatever. -/
theorem SlI.wrote (I : SlI S) {i : Nat} (hi : i < S.n) (ho : S.out i = true) {f : Nat → UInt8} (hf : ∀ p, p < 256 → ¬ (S.pos i ≤ p ∧ p < S.pos i + S.sz) → f p = S.bt p) : SlI { S with bt := f } := by
  refine ⟨I.may, I.nd, I.lt, I.out, fun j hj => ?_, I.tu⟩
  have hm : S.ch.getD j 0 ∈ S.ch := getD_mem hj
  have hne : S.ch.getD j 0 ≠ i := fun e => (I.out i hi).1 ho (by rw [← e]; exact hm)
  have hfit := I.fit (I.lt _ hm)
  have h8 := I.parts.1
  show f (S.pos (S.ch.getD j 0)) = _
  rw [hf _ (by omega) (pos_out S hne (Nat.le_refl _) (by omega))]
  exact I.link j hj
theorem SlI.take (I : SlI S) : SlI S.take.2.2 := by
  unfold Sl.take
  split
  · exact I
  · rename_i i r e
    have hi : i < S.n := I.lt i (by rw [e]; simp)
    have hnd := I.nd
    rw [e, List.nodup_cons] at hnd
    have h8 := I.parts.1
    refine ⟨I.may, hnd.2, fun k hk => I.lt k (by rw [e]; exact List.mem_cons_of_mem _ hk), fun k hk => ?_, fun j hj => ?_, fun k hk ht => ?_⟩
    · show updC S.out i true k = true ↔ k ∉ r
      by_cases ek : k = i
      · subst ek
        rw [updC_same]
        simp [hnd.1]
      · rw [updC_other _ ek, I.out k hk, e]
        simp [ek]
    · have hm : r.getD j 0 ∈ r := getD_mem hj
      have hne : r.getD j 0 ≠ i := fun e2 => hnd.1 (by rw [← e2]; exact hm)
      show putB S.bt (S.pos i) S.sz (fun _ => 0) (S.pos (r.getD j 0)) = nxt r (j + 1)
      unfold putB
      rw [if_neg (pos_out S hne (Nat.le_refl _) (by omega))]
      have h1 := I.link (j + 1) (by rw [e]; simpa using hj)
      rw [e] at h1
      simpa [nxt] using h1
    · show updC S.out i true k = true
      by_cases ek : k = i
      · subst ek
        rw [updC_same]
      · rw [updC_other _ ek]
        exact I.tu k hk ht
theorem SlI.given (I : SlI S) {i : Nat} (hi : i < S.n) (ho : S.out i = true) (ht : S.tu i = 0) : SlI (S.given i) := by
  have hni := (I.out i hi).1 ho
  have h8 := I.parts.1
  refine ⟨I.may, List.nodup_cons.2 ⟨hni, I.nd⟩, fun k hk => ?_, fun k hk => ?_, fun j hj => ?_, fun k hk hk2 => ?_⟩
  · rcases List.mem_cons.1 hk with rfl | hk
    · exact hi
    · exact I.lt k hk
  · show updC S.out i false k = true ↔ k ∉ i :: S.ch
    by_cases ek : k = i
    · subst ek
      rw [updC_same]
      simp
    · rw [updC_other _ ek, I.out k hk]
      simp [ek]
  · show updC S.bt (S.pos i) (nxt S.ch 0) (S.pos ((i :: S.ch).getD j 0)) = nxt (i :: S.ch) (j + 1)
    match j with
    | 0 =>
      show updC S.bt (S.pos i) (nxt S.ch 0) (S.pos i) = _
      rw [updC_same]
      rfl
    | j + 1 =>
      have hj2 : j < S.ch.length := by
        have : j + 1 < (i :: S.ch).length := hj
        simpa using this
      have hm : S.ch.getD j 0 ∈ S.ch := getD_mem hj2
      have hne : S.ch.getD j 0 ≠ i := fun e2 => hni (by rw [← e2]; exact hm)
      show updC S.bt (S.pos i) (nxt S.ch 0) (S.pos (S.ch.getD j 0)) = nxt S.ch (j + 1)
      rw [updC_other _ (pos_ne I hne)]
      exact I.link j hj2
  · show updC S.out i false k = true
    by_cases ek : k = i
    · subst ek
      exact absurd ht hk2
    · rw [updC_other _ ek]
      exact I.tu k hk hk2
theorem SlI.give (I : SlI S) (i : Int) : SlI (S.give i).2 := by
  unfold Sl.give
  split
  · exact I
  · rename_i h
    have hh : S.has i = true := by simpa using h
    have hi := has_iff.1 hh
    split
    · exact I
    · rename_i ho
      split
      · exact I
      · rename_i ht
        exact I.given (by omega) (by simpa using ho) (by simpa using ht)
theorem SlI.mark (I : SlI S) (i t : Int) : SlI (S.mark i t).2 := by
  unfold Sl.mark
  split
  · exact I
  · split
    · exact I
    · rename_i ho
      split
      · exact I
      · refine ⟨I.may, I.nd, I.lt, I.out, I.link, fun k hk hk2 => ?_⟩
        have hk2 : updC S.tu i.toNat t k ≠ 0 := hk2
        show S.out k = true
        by_cases ek : k = i.toNat
        · rw [ek]
          simpa using ho
        · rw [updC_other _ ek] at hk2
          exact I.tu k hk hk2
theorem SlI.clr (I : SlI S) (i : Int) : SlI (S.clr i).2 := by
  unfold Sl.clr
  split
  · exact I
  · split
    · exact I
    · refine ⟨I.may, I.nd, I.lt, I.out, I.link, fun k hk hk2 => ?_⟩
      have hk2 : updC S.tu i.toNat 0 k ≠ 0 := hk2
      show S.out k = true
      by_cases ek : k = i.toNat
      · rw [ek, updC_same] at hk2
        exact absurd rfl hk2
      · rw [updC_other _ ek] at hk2
        exact I.tu k hk hk2
end
/-- The chain is written, its first k places. -/
def wrK (S : Sl) (l : List Nat) : Nat → (Nat → UInt8) → Nat → UInt8
  | 0, f => f
  | k + 1, f => updC (wrK S l k f) (S.pos (l.getD k 0)) (nxt l (k + 1))
theorem wrK_out {S : Sl} {l : List Nat} {f : Nat → UInt8} {p : Nat} : ∀ {k : Nat}, (∀ j, j < k → p ≠ S.pos (l.getD j 0)) → wrK S l k f p = f p
  | 0, _ => rfl
  | k + 1, h => by
    unfold wrK
    rw [updC_other _ (h k (by omega))]
    exact wrK_out (fun j hj => h j (by omega))
theorem wrK_at {S : Sl} {l : List Nat} {f : Nat → UInt8} (hd : ∀ i j, i < l.length → j < l.length → i ≠ j → S.pos (l.getD i 0) ≠ S.pos (l.getD j 0)) : ∀ {k j : Nat}, k ≤ l.length → j < k → wrK S l k f (S.pos (l.getD j 0)) = nxt l (j + 1)
  | 0, j, _, h => absurd h (Nat.not_lt_zero j)
  | k + 1, j, hk, h => by
    unfold wrK
    by_cases e : j = k
    · subst e
      rw [updC_same]
    · rw [updC_other _ (hd j k (by omega) (by omega) e)]
      exact wrK_at hd (by omega) (by omega)
/-- A slab at first: all are free. -/
def Sl.new (size colour : Nat) (f : Nat → UInt8) : Sl :=
  let S : Sl := ⟨size, colour, List.range ((256 - colour) / size), fun _ => false, fun _ => 0, f⟩
  { S with bt := wrK S S.ch S.ch.length f }
theorem range_getD {n j d : Nat} (h : j < n) : (List.range n).getD j d = j := by
  rw [List.getD_eq_getElem?_getD, List.getElem?_range h]
  rfl
theorem SlI.new {size colour : Nat} (h : mayC size colour = true) (f : Nat → UInt8) : SlI (Sl.new size colour f) := by
  have h8 := (may_parts h).1
  refine ⟨h, List.nodup_range, fun i hi => List.mem_range.1 hi, fun i hi => ?_, fun j hj => ?_, fun i _ ht => absurd rfl ht⟩
  · have hm : i ∈ (Sl.new size colour f).ch := List.mem_range.2 hi
    exact ⟨fun e => absurd e (by simp [Sl.new]), fun hn => absurd hm hn⟩
  · refine wrK_at (l := List.range ((256 - colour) / size)) (fun a b ha hb hab => ?_) (Nat.le_refl _) hj
    rw [List.length_range] at ha hb
    rw [range_getD ha, range_getD hb]
    intro e
    rcases Nat.lt_or_gt_of_ne hab with hlt | hlt
    · have := pos_apart (Sl.mk size colour (List.range ((256 - colour) / size)) (fun _ => false) (fun _ => 0) f) hlt
      dsimp only at this
      omega
    · have := pos_apart (Sl.mk size colour (List.range ((256 - colour) / size)) (fun _ => false) (fun _ => 0) f) hlt
      dsimp only at this
      omega
/-- Writing the chain of what is given back turns one byte. -/
theorem wrK_given {S : Sl} (I : SlI S) {i : Nat} (hni : i ∉ S.ch) : ∀ k, k ≤ S.ch.length → wrK S (i :: S.ch) (k + 1) S.bt = updC S.bt (S.pos i) (nxt S.ch 0)
  | 0, _ => rfl
  | k + 1, hk => by
    have h1 := wrK_given I hni k (by omega)
    have e : wrK S (i :: S.ch) (k + 1 + 1) S.bt = updC (wrK S (i :: S.ch) (k + 1) S.bt) (S.pos (S.ch.getD k 0)) (nxt S.ch (k + 1)) := rfl
    rw [e, h1]
    have hm : S.ch.getD k 0 ∈ S.ch := getD_mem (show k < S.ch.length by omega)
    have hne : S.ch.getD k 0 ≠ i := fun e2 => hni (by rw [← e2]; exact hm)
    funext p
    by_cases ep : p = S.pos (S.ch.getD k 0)
    · subst ep
      rw [updC_same, updC_other _ (pos_ne I hne)]
      exact (I.link k (by omega)).symm
    · rw [updC_other _ ep]
end Go.Proofs.Ytlimbcpghfddkaa
