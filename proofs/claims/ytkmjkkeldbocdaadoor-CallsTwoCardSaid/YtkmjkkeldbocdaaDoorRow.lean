/-
  Blocks that turn while all others stay: Only; a block known by its first cells: RowAt; copy, store and clear on it. Of no program.
-/
import Derived.Test.YtkmjkkeldbocdaaDoorArr
import Derived.WalkKit
import Derived.Laws.CopyOwn
import Derived.Deep.QuietTactic
import Derived.Deep.MidRow
namespace Go.Proofs.YtkmjkkeldbocdaaDoor
open Go.RowKit Go

/-- All blocks but those of S are as they were. -/
structure Only (S : Nat → Prop) (w w' : World) : Prop where
  os : w'.os = w.os
  tape : w'.tape = w.tape
  output : w'.output = w.output
  size : w.heap.size ≤ w'.heap.size
  block : ∀ k, k < w.heap.size → ¬ S k → w'.heap[k]? = w.heap[k]?

theorem Only.refl (S : Nat → Prop) (w : World) : Only S w w := ⟨rfl, rfl, rfl, Nat.le_refl _, fun _ _ _ => rfl⟩
theorem Only.trans {S : Nat → Prop} {a b c : World} (h : Only S a b) (k : Only S b c) : Only S a c :=
  ⟨k.os.trans h.os, k.tape.trans h.tape, k.output.trans h.output, Nat.le_trans h.size k.size,
    fun i hi hs => (k.block i (Nat.lt_of_lt_of_le hi h.size) hs).trans (h.block i hi hs)⟩
theorem Only.of_below {S : Nat → Prop} {w w' : World} (h : Below w.heap.size w w') : Only S w w' := ⟨h.os, h.tape, h.output, h.size, fun k hk _ => h.block k hk⟩
theorem Only.alloc (S : Nat → Prop) (w : World) (ob : Obj) : Only S w (w.alloc ob) := Only.of_below ((Below.refl _ w).alloc (Nat.le_refl _) ob)
theorem Only.drewN (S : Nat → Prop) (w : World) (m : Nat) : Only S w (w.drewN m) := ⟨rfl, rfl, rfl, Nat.le_refl _, fun _ _ _ => rfl⟩
theorem Only.setCell {S : Nat → Prop} (w : World) (p : Addr) (hp : S p.block) (v : Value) : Only S w (w.setCell p v) :=
  ⟨rfl, rfl, rfl, by simp [World.setCell], fun k _ hs => Below.heap_setCell _ _ _ _ (fun e => hs (e ▸ hp))⟩
theorem Only.setRow {S : Nat → Prop} (w : World) (b : Nat) (hp : S b) (cs : Array Value) : Only S w (w.setRow b cs) :=
  ⟨rfl, rfl, rfl, by simp [World.setRow], fun k _ hs => setRow_other w b k cs (fun e => hs (e ▸ hp))⟩
theorem Only.mono {S S' : Nat → Prop} {w w' : World} (h : Only S w w') (hs : ∀ k, S k → S' k) : Only S' w w' :=
  ⟨h.os, h.tape, h.output, h.size, fun k hk hn => h.block k hk (fun x => hn (hs k x))⟩
/-- What turns from B on alone leaves all below B. -/
theorem Only.below {S : Nat → Prop} {B : Nat} {a w w' : World} (h : Only S w w') (hb : Below B a w) (hB : B ≤ w.heap.size) (hs : ∀ k, S k → B ≤ k) : Below B a w' :=
  hb.trans ⟨h.os, h.tape, h.output, h.size, fun k hk => h.block k (by omega) (fun x => by have := hs k x; omega)⟩
theorem Only.cell {S : Nat → Prop} {w w' : World} (h : Only S w w') {b o : Nat} {v : Value} (hs : ¬ S b) (hv : w.cell? ⟨b, o, none⟩ = some v) : w'.cell? ⟨b, o, none⟩ = some v := by
  have hb := World.block_lt_of_cell? _ _ hv
  rw [World.cell?_of_block (w := w) (a := ⟨b, o, none⟩) (h.block b hb hs)]; exact hv

theorem World.setCells_size (b : Nat) : ∀ (vs : List Value) (o : Nat) (w : World), (w.setCells b o vs).heap.size = w.heap.size
  | [], _, _ => rfl
  | v :: r, o, w => by
    rw [World.setCells, World.setCells_size b r (o + 1)]
    simp [World.setCell]
theorem Only.setCells {S : Nat → Prop} {b : Nat} (hp : S b) : ∀ (vs : List Value) (o : Nat) (w : World), Only S w (w.setCells b o vs)
  | [], _, w => Only.refl S w
  | v :: r, o, w => (Only.setCell w ⟨b, o, none⟩ hp v).trans (Only.setCells hp r (o + 1) _)

/-- Block b begins with the cells f 0 .. f (n - 1), none of them frozen. -/
def RowAt (w : World) (b n : Nat) (f : Nat → Value) : Prop := ∃ A t, w.heap[b]? = some (.cells A t (0, 0)) ∧ ∀ i, i < n → A[i]? = some (f i)

theorem RowAt.cell {w : World} {b n : Nat} {f : Nat → Value} (R : RowAt w b n f) (i : Nat) (h : i < n) : w.cell? ⟨b, i, none⟩ = some (f i) := by
  obtain ⟨A, t, hA, hf⟩ := R
  rw [cell_of_row w b i _ _ _ hA]; exact hf i h
theorem RowAt.frozen {w : World} {b n : Nat} {f : Nat → Value} (R : RowAt w b n f) (i : Nat) : w.frozen? ⟨b, i, none⟩ = false := by
  obtain ⟨A, t, hA, hf⟩ := R
  simp [World.frozen?, hA]
theorem RowAt.lt {w : World} {b n : Nat} {f : Nat → Value} (R : RowAt w b n f) : b < w.heap.size := by
  obtain ⟨A, t, hA, hf⟩ := R
  exact (Array.getElem?_eq_some_iff.1 hA).1
theorem RowAt.block {w w' : World} {b n : Nat} {f : Nat → Value} (R : RowAt w b n f) (h : w'.heap[b]? = w.heap[b]?) : RowAt w' b n f := by
  obtain ⟨A, t, hA, hf⟩ := R
  exact ⟨A, t, by rw [h]; exact hA, hf⟩
theorem RowAt.only {S : Nat → Prop} {w w' : World} {b n : Nat} {f : Nat → Value} (R : RowAt w b n f) (h : Only S w w') (hs : ¬ S b) : RowAt w' b n f := R.block (h.block b R.lt hs)
theorem RowAt.later {w w' : World} {b n : Nat} {f : Nat → Value} (R : RowAt w b n f) (h : Below w.heap.size w w') : RowAt w' b n f := R.block (h.block b R.lt)
theorem RowAt.below {B : Nat} {w w' : World} {b n : Nat} {f : Nat → Value} (R : RowAt w b n f) (h : Below B w w') (hb : b < B) : RowAt w' b n f := R.block (h.block b hb)
theorem RowAt.ext {w : World} {b n : Nat} {f g : Nat → Value} (R : RowAt w b n f) (h : ∀ i, i < n → f i = g i) : RowAt w b n g := by
  obtain ⟨A, t, hA, hf⟩ := R
  exact ⟨A, t, hA, fun i hi => by rw [hf i hi, h i hi]⟩
theorem RowAt.take {w : World} {b n m : Nat} {f : Nat → Value} (R : RowAt w b n f) (h : m ≤ n) : RowAt w b m f := by
  obtain ⟨A, t, hA, hf⟩ := R
  exact ⟨A, t, hA, fun i hi => hf i (by omega)⟩
theorem RowAt.new (w : World) (A : Array Value) (t : TypeId) (n : Nat) (f : Nat → Value) (h : ∀ i, i < n → A[i]? = some (f i)) : RowAt (w.alloc (.cells A t)) w.heap.size n f :=
  ⟨A, t, heap_alloc_new w _, h⟩
theorem RowAt.alloc {w : World} {b n : Nat} {f : Nat → Value} (R : RowAt w b n f) (ob : Obj) : RowAt (w.alloc ob) b n f := R.later ((Below.refl _ w).alloc (Nat.le_refl _) ob)

def updV (f : Nat → Value) (i : Nat) (v : Value) (j : Nat) : Value := if j = i then v else f j
theorem RowAt.setCell {w : World} {b n : Nat} {f : Nat → Value} (R : RowAt w b n f) (i : Nat) (v : Value) : RowAt (w.setCell ⟨b, i, none⟩ v) b n (updV f i v) := by
  obtain ⟨A, t, hA, hf⟩ := R
  refine ⟨A.setIfInBounds i v, t, ?_, fun j hj => ?_⟩
  · simp [World.setCell, Array.getElem?_modify, hA]
  · unfold updV
    by_cases h : j = i
    · subst h
      have := (Array.getElem?_eq_some_iff.1 (hf j hj)).1
      rw [if_pos rfl, Array.getElem?_setIfInBounds_self_of_lt this]
    · rw [if_neg h, Array.getElem?_setIfInBounds_ne (by omega)]
      exact hf j hj
theorem RowAt.setCells {b n : Nat} : ∀ (vs : List Value) (o : Nat) (w : World) (f : Nat → Value), RowAt w b n f → RowAt (w.setCells b o vs) b n (fun i => if o ≤ i ∧ i < o + vs.length then vs.getD (i - o) undef else f i)
  | [], o, w, f, R => R.ext (fun i _ => by rw [if_neg (by intro h; simp at h; omega)])
  | v :: r, o, w, f, R => by
    refine (RowAt.setCells r (o + 1) _ _ (R.setCell o v)).ext (fun i _ => ?_)
    by_cases h : o + 1 ≤ i ∧ i < o + 1 + r.length
    · rw [if_pos h, if_pos ⟨by omega, by simp; omega⟩, show i - o = i - (o + 1) + 1 by omega]; rfl
    · rw [if_neg h]
      unfold updV
      by_cases e : i = o
      · subst e
        rw [if_pos rfl, if_pos ⟨Nat.le_refl _, by simp⟩]; simp
      · rw [if_neg e, if_neg (by simp; omega)]

/-- k cells x laid over f from o on. -/
def putF (f : Nat → Value) (o k : Nat) (x : Nat → Value) (i : Nat) : Value := if o ≤ i ∧ i < o + k then x (i - o) else f i
theorem putF_none (f : Nat → Value) (o : Nat) (x : Nat → Value) : putF f o 0 x = f := by
  funext i; unfold putF; rw [if_neg (by omega)]
theorem RowAt.setRow_splice {w : World} {b n : Nat} {f : Nat → Value} {A : Array Value} {t : TypeId} (hA : w.heap[b]? = some (.cells A t (0, 0))) (hf : ∀ i, i < n → A[i]? = some (f i)) (o k : Nat) (x : Nat → Value) (hfit : o + k ≤ n) :
    RowAt (w.setRow b (A.toList.take o ++ ((List.range k).map x ++ A.toList.drop (o + k))).toArray) b n (putF f o k x) := by
  refine ⟨_, t, setRow_heap w b A _ t _ hA, fun i hi => ?_⟩
  have hlt := (Array.getElem?_eq_some_iff.1 (hf i hi)).1
  have hAi : A.toList[i]? = some (f i) := by simpa using hf i hi
  have hlen : o ≤ A.toList.length := by
    by_cases hz : n = 0
    · omega
    · have := (Array.getElem?_eq_some_iff.1 (hf (n - 1) (by omega))).1
      simp; omega
  rw [List.getElem?_toArray]
  unfold putF
  by_cases h1 : i < o
  · rw [if_neg (by omega), List.getElem?_append_left (by simp; omega), List.getElem?_take_of_lt h1]; exact hAi
  · by_cases h2 : i < o + k
    · rw [if_pos (by omega), List.getElem?_append_right (by simp; omega), List.length_take, Nat.min_eq_left hlen, List.getElem?_append_left (by simp; omega)]
      rw [List.getElem?_map, List.getElem?_range (by omega)]; rfl
    · rw [if_neg (by omega), List.getElem?_append_right (by simp; omega), List.length_take, Nat.min_eq_left hlen, List.getElem?_append_right (by simp; omega)]
      rw [List.length_map, List.length_range, List.getElem?_drop, show o + k + (i - o - k) = i by omega]; exact hAi

/-- copy onto a row. -/
theorem wpList_copy_row {P : Program} {w : World} {ops : Array Oper} {rest : List Oper} {o : Oper} {a : Act} {Q : Exit → Act → World → Prop} (hgd : o.guard = none) (d s : Operand) (dT sT : TypeId)
    (ho : o.op = .call { callee := .builtin .copy, args := #[d, s], argTypes := #[dT, sT] }) (elem : TypeId) (hu : P.underlying dT = some (.slice elem)) (hsz : (P.info? elem).map (·.size) = some 1)
    (dp sp : Option Addr) (dLen dCap sLen sCap : Nat) (hd : a.eval d = .slice dp dLen dCap) (hs : a.eval s = .slice sp sLen sCap)
    (g off n k : Nat) (f x : Nat → Value) (R : RowAt w g n f) (hk : k = Nat.min sLen dLen)
    (hpos : 0 < k → dp = some ⟨g, off, none⟩ ∧ ∃ ad, sp = some ad ∧ ∀ j, j < k → w.cell? (ad.add j) = some (x j))
    (hfit : off + k ≤ n) (h1 : ∀ j, j < k → (x j).oneCell' = true)
    (h : ∀ w', RowAt w' g n (putF f off k x) → Only (Eq g) w w' → w'.heap.size = w.heap.size → wpList P ops Q rest (a.put o.dst (goInt k)) w') :
    wpList P ops Q (o :: rest) a w := by
  by_cases h0 : k = 0
  · subst h0
    refine wpList_copy_nothing hgd d s dT sT ho elem hu hsz dp sp dLen dCap sLen sCap hd hs hk.symm ?_
    exact h w (by rw [putF_none]; exact R) (Only.refl _ _) rfl
  · obtain ⟨rfl, ad, rfl, hsrc⟩ := hpos (by omega)
    obtain ⟨A, t, hA, hf⟩ := R
    have hAs : n ≤ A.size := by
      by_cases hz : n = 0
      · omega
      · have := (Array.getElem?_eq_some_iff.1 (hf (n - 1) (by omega))).1
        omega
    have hl : ((List.range k).map x).length = k := by simp
    have hw := wpList_copy_own (P := P) (w := w) (ops := ops) (rest := rest) (o := o) (a := a) (Q := Q) hgd d s dT sT ho elem hu hsz g off dLen dCap ad sLen sCap hd hs A t hA ((List.range k).map x) (by rw [hl]; exact hk)
      (fun j v hv => by
        have hj : j < k := by have := (List.getElem?_eq_some_iff.1 hv).1; simpa using this
        rw [List.getElem?_map, List.getElem?_range hj] at hv
        rw [hsrc j hj]; exact hv)
      (by rw [hl]; omega) (fun v hv => by
        obtain ⟨j, hj, rfl⟩ := List.mem_map.1 hv
        exact h1 j (by simpa using hj))
    refine hw ?_
    rw [hl]
    exact h _ (RowAt.setRow_splice hA hf off k x hfit) (Only.setRow w g rfl _) (by simp [World.setRow])

/-- The row of a slice that the call owns. -/
theorem RowAt.of_owns {w : World} {base : Nat} {e : TypeId} {size n : Nat} {v : Value} {xs : List Value} (h : w.ownsRow base e size v n xs) (f : Nat → Value) (hf : ∀ i, i < n * size → xs[i]? = some (f i)) (hv : v ≠ .slice none 0 0) :
    ∃ g cap, v = .slice (some ⟨g, 0, none⟩) n cap ∧ base ≤ g ∧ g < w.heap.size ∧ n ≤ cap ∧ RowAt w g (n * size) f := by
  obtain ⟨hl, ⟨rfl, _⟩ | ⟨g, cap, cur, rfl, hb, hh, hnc, _, hs, ht⟩⟩ := h
  · exact absurd rfl hv
  · refine ⟨g, cap, rfl, hb, (Array.getElem?_eq_some_iff.1 hh).1, hnc, cur, e, hh, fun i hi => ?_⟩
    have := hf i hi
    rw [← ht, List.getElem?_take_of_lt hi] at this
    simpa using this
/-- A cell of a made row. -/
theorem made_at (z : Array Value) (n i : Nat) (hi : i < n) : (madeCells z n).toList[i]? = some (z[i % z.size]!) := by
  simp [madeCells, hi]

theorem RowAt.range {w : World} {b n : Nat} {f : Nat → Value} (R : RowAt w b n f) (o : Nat) (cs : List Value) (h : ∀ j v, cs[j]? = some v → o + j < n ∧ f (o + j) = v) : w.rangeAt b o cs := fun j v hv => by
  obtain ⟨h1, h2⟩ := h j v hv
  rw [R.cell _ h1, h2]
theorem RowAt.there {w : World} {b n : Nat} {f : Nat → Value} (R : RowAt w b n f) (o k : Nat) (h : o + k ≤ n) : w.there b o k := fun j hj => ⟨by rw [R.cell (o + j) (by omega)]; rfl, R.frozen _⟩
end Go.Proofs.YtkmjkkeldbocdaaDoor
