/-
  An iterator of whatever function that tells a list: what a caller's range may ask of it. Of no program.
-/
import Derived.Test.YtndddfkebbeemaaRfKit
import Derived.Test.YtndddfkebbeemaaRangeO
import Derived.Test.YtndddfkebbeemaaKept
namespace Go.Proofs.Ytndddfkebbeemaa
open Go.RowKit Go.Shelf Go

/-- What a body keeps (Kp): the iterator's own blocks, and of what was made since what P says. -/
structure KpOk (Kp : World → World → Prop) (P : Nat → World → Prop) (own : Nat → Prop) (W0 : World) : Prop where
  trans : ∀ {A B C : World}, Kp A B → Kp B C → Kp A C
  below : ∀ W W', W0.heap.size ≤ W.heap.size → Below W.heap.size W W' → Kp W W'
  size : ∀ {W W'}, Kp W W' → W.heap.size ≤ W'.heap.size
  own : ∀ {W}, Kp W0 W → ∀ k, own k → W.heap[k]? = W0.heap[k]?
  keep : ∀ {W W' k o}, Kp W W' → P k W → W.heap[k]? = some o → o.isCells = true → W'.heap[k]? = some o ∧ P k W'
  new : ∀ {W W' k}, Kp W0 W → Below W.heap.size W W' → W.heap.size ≤ k → P k W'
  lat : ∀ {W W' k}, P k W → k < W.heap.size → W0.heap.size ≤ W.heap.size → Below W.heap.size W W' → P k W'
section
variable {α : Type}
abbrev allOf (L : List α) (xs : List (Fin L.length)) : Prop := xs.map Fin.val = List.range L.length
abbrev someOf (L : List α) (xs : List (Fin L.length)) : Prop := ∃ k, k ≤ L.length ∧ xs.map Fin.val = List.range k
/-- It tells the list. -/
def Tells (P : Program) (g : Nat) (lb : Array Value) (enc : α → Array Value) (L : List α) (own : Nat → Prop) (w0 : World) : Prop :=
  ∀ (m : Nat), 6 ≤ m → ∀ (l : Nat) (Kp : World → World → Prop) (Pn : Nat → World → Prop) (J Jx : List (Fin L.length) → World → Prop) (W0 : World),
    Below w0.heap.size w0 W0 → KpOk Kp Pn own W0 → AbidesFrom W0.heap.size J →
    (∀ pre (x : Fin L.length) W, J pre W → someOf L (pre ++ [x]) → YieldAt Fence.wide (m - 1) P l (enc (L[x.val]'x.isLt)) W fun e W' =>
      (e = .returned (.bool true) ∧ J (pre ++ [x]) W' ∧ Kp W W') ∨ (e = .returned (.bool false) ∧ Jx (pre ++ [x]) W')) →
    J [] W0 →
    CallsIn Fence.wide m P g (#[.func (.yield l) #[] #[]] ++ lb) W0 fun e W' => (∃ v, e = .returned v) ∧ ((∃ xs, allOf L xs ∧ J xs W') ∨ (∃ pre, someOf L pre ∧ Jx pre W'))
variable {P : Program} {g : Nat} {lb : Array Value} {enc : α → Array Value} {L : List α} {own : Nat → Prop} {w w' : World}
theorem Tells.later (h : Tells P g lb enc L own w) (hb : Below w.heap.size w w') : Tells P g lb enc L own w' := fun m hm l Kp Pn J Jx W0 hW => h m hm l Kp Pn J Jx W0 (hb.trans (hW.mono hb.size))
/-- Where all blocks but C's and the loop's own stay. -/
theorem Tells.solo (h : Tells P g lb enc L own w) (m : Nat) (hm : 6 ≤ m) (C : Nat → Prop) (hC : ∀ k, C k → k < w.heap.size) (ho : ∀ k, own k → k < w.heap.size ∧ ¬ C k) :
    SeqO Fence.wide m P g lb (fun x : Fin L.length => enc (L[x.val]'x.isLt)) (KpZ C) (someOf L) (allOf L) (someOf L) w := by
  intro l J Jx W hW hwl hlW hJ hY h0
  have hsz := hW.size
  refine h m hm l (KpZ C l) (fun k _ => ¬ C k ∧ k ≠ l) J Jx W hW ?_ (fun s X Y row hs hg hr => hJ s X Y row hs hg (fun r e => by
      obtain ⟨h1, o, h2, h3⟩ := hr r e
      exact ⟨h1, o, h2, by cases o <;> first | rfl | cases h3⟩)) hY h0
  refine ⟨KpZ.trans, fun _ _ _ hb => KpZ.of_below hb, fun h => h.size, fun {V} hk k hok => ?_, fun {V V' k o} hk hp hv _ => ⟨hk.same k o hv hp.1 hp.2, hp⟩, fun {V V' k} hk hb hlt => ⟨fun hc => ?_, ?_⟩, fun hp _ _ _ => hp⟩
  · have h1 := ho k hok
    exact hk.block (by omega) h1.2 (by omega)
  · have := hC k hc; have := hk.size; omega
  · have := hk.size; omega
/-- Where a boxed slice grows. -/
theorem Tells.grow (h : Tells P g lb enc L own w) (m : Nat) (hm : 6 ≤ m) (bx : Nat) (hbx : bx < w.heap.size) (hv : boxOwn bx w = none) (ho : ∀ k, own k → k < w.heap.size ∧ k ≠ bx) :
    SeqO Fence.wide m P g lb (fun x : Fin L.length => enc (L[x.val]'x.isLt)) (fun _ => KpG bx w.heap.size) (someOf L) (allOf L) (someOf L) w := by
  intro l J Jx W hW hwl hlW hJ hY h0
  have hsz := hW.size
  have eW : boxOwn bx W = none := (boxOwn_eq (hW.cell (p := ⟨bx, 0, none⟩) hbx)).trans hv
  refine h m hm l (KpG bx w.heap.size) (fun k V => boxOwn bx V ≠ some k ∧ k ≠ bx) J Jx W hW ?_ (fun s X Y row hs hg hr => hJ s X Y row hs hg (fun r e => by
      obtain ⟨h1, o, h2, h3⟩ := hr r e
      exact ⟨h1, o, h2, by cases o <;> first | rfl | cases h3⟩)) hY h0
  refine ⟨KpG.trans, fun V V' hs hb => KpG.of_below (by omega) hb, fun h => h.size, fun {V} hk k hok => ?_, fun {V V' k o} hk hp hv hc => ?_, fun {V V' k} hk hb hlt => ⟨fun e => ?_, ?_⟩, fun {V V' k} hp hk hs hb => ⟨?_, hp.2⟩⟩
  · have h1 := ho k hok
    have h2 : W.heap[k]? = some (W.heap[k]'(by omega)) := Array.getElem?_eq_getElem _
    rw [hk.low k _ h2 h1.1 h1.2, h2]
  · have := hk.keep k o hv hc hp.2 hp.1
    exact ⟨this.1, this.2, hp.2⟩
  · have h1 := hk.size
    rw [boxOwn_eq (hb.cell (p := ⟨bx, 0, none⟩) (by show bx < V.heap.size; omega))] at e
    have := hk.val (fun g hg => by rw [eW] at hg; cases hg) _ e
    omega
  · have := hk.size
    omega
  · rw [boxOwn_eq (hb.cell (p := ⟨bx, 0, none⟩) (by show bx < V.heap.size; omega))]
    exact hp.1
/-- What has been told. -/
def toldL (L : List α) (xs : List (Fin L.length)) : List α := xs.map fun x => L[x.val]'x.isLt
theorem toldL_all {xs : List (Fin L.length)} (h : allOf L xs) : toldL L xs = L := by
  refine List.ext_getElem? fun i => ?_
  by_cases hi : i < L.length
  · have h1 : xs.length = L.length := by have := congrArg List.length h; simpa using this
    have h2 : (xs.map Fin.val)[i]? = some i := by rw [h, List.getElem?_range hi]
    rw [List.getElem?_map, List.getElem?_eq_getElem (by omega)] at h2
    simp only [Option.map_some, Option.some.injEq] at h2
    unfold toldL
    rw [List.getElem?_map, List.getElem?_eq_getElem (by omega)]
    simp only [Option.map_some]
    rw [List.getElem?_eq_getElem hi]
    congr 1
    exact getElem_congr_idx h2
  · have h1 : xs.length = L.length := by have := congrArg List.length h; simpa using this
    rw [List.getElem?_eq_none (by unfold toldL; simp; omega), List.getElem?_eq_none (by omega)]
theorem toldL_one (pre : List (Fin L.length)) (x : Fin L.length) : toldL L (pre ++ [x]) = toldL L pre ++ [L[x.val]'x.isLt] := by simp [toldL]
theorem toldL_len (xs : List (Fin L.length)) : (toldL L xs).length = xs.length := by simp [toldL]
/-- The next one is told next. -/
theorem next_of_some {pre : List (Fin L.length)} {x : Fin L.length} (h : someOf L (pre ++ [x])) : x.val = pre.length ∧ someOf L pre := by
  obtain ⟨k, hk, h⟩ := h
  have hl := congrArg List.length h
  simp at hl
  subst hl
  rw [List.map_append, List.range_succ] at h
  have h2 := List.append_inj h (by simp)
  refine ⟨by simpa using h2.2, pre.length, by omega, h2.1⟩
end
end Go.Proofs.Ytndddfkebbeemaa
