/-
  clock, the document's: how its ring lies; Find, Active.
-/
import Derived.Test.YtndddfkebbeemaaClTold
namespace Go.Proofs.Ytndddfkebbeemaa
open Go.RowKit Go.Shelf Go
attribute [local go_sem] Oper.semAt_some

abbrev encF (x : Fr) : List Value := [.int .i64 x.1, .bool x.2.1, .bool x.2.2]
theorem encF_len (x : Fr) : (encF x).length = 3 := rfl
/-- The document's clock lies at r. -/
structure RfC (w : World) (B r : Nat) (L : List Fr) : Prop where
  c0 : ∃ v, w.cell? ⟨r, 0, none⟩ = some v ∧ w.ownsRow B 56 3 v L.length (recV encF L) ∧ v.ownBlock ≠ some r
section
variable {w w' : World} {B r : Nat} {L : List Fr}
theorem RfC.at (h : RfC w B r L) : ∃ a cap, w.cell? ⟨r, 0, none⟩ = some (.slice a L.length cap) ∧ ∀ j x, L[j]? = some x → ∃ g, a = some ⟨g, 0, none⟩ ∧ w.cell? ⟨g, j * 3, none⟩ = some (.int .i64 x.1) ∧ w.cell? ⟨g, j * 3 + 1, none⟩ = some (.bool x.2.1) ∧ w.cell? ⟨g, j * 3 + 2, none⟩ = some (.bool x.2.2) := by
  obtain ⟨v, h1, h2, _⟩ := h.c0
  obtain ⟨a, cap, rfl, hR⟩ := RecsAt.of_owns h2
  refine ⟨a, cap, h1, fun j x hx => ?_⟩
  obtain ⟨hj, hx⟩ := List.getElem?_eq_some_iff.1 hx
  obtain ⟨g, rfl, _, _, hr⟩ := hR.get encF_len j hj
  rw [hx] at hr
  exact ⟨g, rfl, by simpa using hr 0 _ rfl, hr 1 _ rfl, hr 2 _ rfl⟩
end
/-- Where a number is, from i on; -1: nowhere. -/
def fndN (x : Int) : Nat → List Fr → Int
  | _, [] => -1
  | i, y :: L => if (y.1 : Int) = x then i else fndN x (i + 1) L
set_option maxRecDepth 100000 in
set_option maxHeartbeats 4000000 in
theorem rfind_any {w : World} {B r : Nat} {L : List Fr} (h : RfC w B r L) (hl : L.length ≤ 1000) (x : Int) : Calls Try.prog 26 #[.pointer (some ⟨r, 0, none⟩), .int .i64 x] w fun e w' => e = .returned (.int .i64 (fndN x 0 L)) ∧ w = w' := by
  obtain ⟨a, cap, c0, hx⟩ := h.at
  have HX := Lib.hid hx
  clear hx h
  go_enter Try.func26, Try.ntmps26
  go_wp2_with (fail)
  go_loopw [5] (fun iv wr => ∃ i : Nat, iv = .int .i64 i ∧ i ≤ L.length ∧ Hid (fndN x 0 L = fndN x i (L.drop i)) ∧ wr = w) (fun iv _ => L.length - (intOf iv).toNat)
  case atStart => exact ⟨0, rfl, Nat.zero_le _, Lib.hid rfl, rfl⟩
  case round =>
    obtain ⟨i, rfl, hi, HF, hw⟩ := hrel
    have hw := hw.symm
    subst hw
    by_cases hli : i < L.length
    · have hiI : (i : Int) < L.length := by omega
      obtain ⟨y, hy⟩ : ∃ y, L[i]'hli = y := ⟨_, rfl⟩
      obtain ⟨g, rfl, k0, _, _⟩ := HX.out i y (by rw [List.getElem?_eq_getElem hli, hy])
      have hf := HF.out
      rw [List.drop_eq_getElem_cons hli, hy, fndN] at hf
      by_cases hyx : (y.1 : Int) = x
      · rw [if_pos hyx] at hf
        subst hyx
        have HFF := Lib.hid hf
        have hyy : ((y.1 : Int) == y.1) = true := by simp
        clear hf hy HF
        go_wp2_with (fail)
        go_ret
        exact ⟨by rw [HFF.out]; rfl, rfl⟩
      · rw [if_neg hyx] at hf
        have HFF := Lib.hid hf
        have hyb : ((y.1 : Int) == x) = false := by rw [beq_eq_false_iff_ne]; exact hyx
        clear hf hy HF
        go_wp2_with (fail)
        go_roundw
        case rel => exact ⟨i + 1, by go_num, hli, HFF, trivial⟩
        case measure => simp [intOf]; omega
    · obtain rfl : i = L.length := by omega
      have hf := HF.out
      rw [List.drop_length, fndN] at hf
      have HFF := Lib.hid hf
      clear hf HF
      go_wp2_with (fail)
      go_ret
      exact ⟨by rw [HFF.out]; rfl, rfl⟩
theorem fnd_has {L : List Fr} {x : Int} : ∀ (i : Nat), (fndN x i L = -1 ∧ ∀ y ∈ L, (y.1 : Int) ≠ x) ∨ ∃ k : Nat, fndN x i L = ((i + k : Nat) : Int) ∧ ∃ h : k < L.length, ((L[k]'h).1 : Int) = x := by
  induction L with
  | nil => exact fun i => .inl ⟨rfl, fun y hy => absurd hy List.not_mem_nil⟩
  | cons y L ih =>
    intro i
    by_cases h : (y.1 : Int) = x
    · exact .inr ⟨0, by rw [fndN, if_pos h]; rfl, by simp, h⟩
    · rcases ih (i + 1) with ⟨h1, h2⟩ | ⟨k, h1, h2, h3⟩
      · refine .inl ⟨by rw [fndN, if_neg h]; exact h1, fun z hz => ?_⟩
        rcases List.mem_cons.1 hz with rfl | hz
        · exact h
        · exact h2 z hz
      · exact .inr ⟨k + 1, by rw [fndN, if_neg h, h1]; congr 1; omega, by simpa using h2, h3⟩
/-- It is there: the law's own question. -/
theorem fnd_ge {L : List Fr} {x : Int} : decide (0 ≤ fndN x 0 L) = hasL L x := by
  rcases fnd_has (L := L) (x := x) 0 with ⟨h1, h2⟩ | ⟨k, h1, h2, h3⟩
  · rw [h1, show hasL L x = false from decide_eq_false fun h => ?_]
    · rfl
    · obtain ⟨y, hy, e⟩ := List.mem_map.1 h.2
      exact h2 y hy (by have := h.1; omega)
  · rw [h1, show hasL L x = true from decide_eq_true ⟨by omega, List.mem_map.2 ⟨_, List.getElem_mem h2, by omega⟩⟩]
    exact decide_eq_true (by omega)
set_option maxRecDepth 100000 in
set_option maxHeartbeats 4000000 in
theorem ractive_any {w : World} {B r : Nat} {L : List Fr} (h : RfC w B r L) (hl : L.length ≤ 1000) : Calls Try.prog 33 #[.pointer (some ⟨r, 0, none⟩)] w fun e w' => e = .returned (.int .i64 (actL L)) ∧ w = w' := by
  obtain ⟨a, cap, c0, hx⟩ := h.at
  have HX := Lib.hid hx
  clear hx h
  go_enter Try.func33, Try.ntmps33
  go_wp2_with (fail)
  go_loopw [3, 4] (fun nv iv wr => ∃ (i m : Nat), iv = .int .i64 i ∧ nv = .int .i64 m ∧ i ≤ L.length ∧ m ≤ i ∧ Hid (actL (L.take i) = m) ∧ wr = w) (fun _ iv _ => L.length - (intOf iv).toNat)
  case atStart => exact ⟨0, 0, rfl, rfl, Nat.zero_le _, Nat.le_refl _, Lib.hid rfl, rfl⟩
  case round =>
    obtain ⟨i, m, rfl, rfl, hi, hm, HF, hw⟩ := hrel
    have hw := hw.symm
    subst hw
    by_cases hli : i < L.length
    · have hiI : (i : Int) < L.length := by omega
      obtain ⟨⟨yn, ya, yt⟩, hy⟩ : ∃ y, L[i]'hli = y := ⟨_, rfl⟩
      obtain ⟨g, rfl, _, k1, _⟩ := HX.out i (yn, ya, yt) (by rw [List.getElem?_eq_getElem hli, hy])
      dsimp only at k1
      have hf : actL (L.take (i + 1)) = m + (if ya then 1 else 0) := by
        have h := HF.out
        unfold actL at h ⊢
        rw [List.take_add_one, List.getElem?_eq_getElem hli, hy, List.countP_append, h]
        cases ya <;> rfl
      have HFF := Lib.hid hf
      clear hf hy HF
      cases ya with
      | true =>
        go_wp2_with (fail)
        go_roundw
        case rel => exact ⟨i + 1, m + 1, by go_num, by go_num, hli, by omega, HFF, trivial⟩
        case measure => simp [intOf]; omega
      | false =>
        go_wp2_with (fail)
        go_roundw
        case rel => exact ⟨i + 1, m, by go_num, rfl, hli, by omega, HFF, trivial⟩
        case measure => simp [intOf]; omega
    · obtain rfl : i = L.length := by omega
      have hf := HF.out
      rw [List.take_length] at hf
      have HFF := Lib.hid hf
      clear hf HF
      go_wp2_with (fail)
      go_ret
      exact ⟨by rw [HFF.out]; rfl, rfl⟩
end Go.Proofs.Ytndddfkebbeemaa
