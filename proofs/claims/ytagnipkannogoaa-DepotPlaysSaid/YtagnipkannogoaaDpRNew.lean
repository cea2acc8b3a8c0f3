/-
  depot's document: New.
-/
import Derived.Test.YtagnipkannogoaaDpRef
namespace Go.Proofs.Ytagnipkannogoaa
open Go.RowKit Go
section
variable {w0 w w' : World} {X : Thg} {l : List Rw}
set_option maxRecDepth 100000 in
set_option maxHeartbeats 4000000 in
theorem r10new (n : Int) (h : FK w0 X l w) : Calls Try.prog 26 #[.int .i64 n] w fun e w' => ∃ p, e = .returned (.pointer (some ⟨p, 0, none⟩)) ∧ FK w0 X (rC p 56 [.int .i64 (clN n), .slice none 0 0, .slice none 0 0] :: l) w' := by
  have HF := Lib.hid (FK.box h 56 [.int .i64 (clN n), .slice none 0 0, .slice none 0 0])
  clear h
  rcases (show n < 1 ∨ (¬ n < 1 ∧ 32 < n) ∨ (¬ n < 1 ∧ ¬ 32 < n) by omega) with h | ⟨h, h2⟩ | ⟨h, h2⟩
  · rw [show ((clN n : Nat) : Int) = 1 by unfold clN; omega] at HF ⊢
    go_enter Try.func26, Try.ntmps26
    go_wp2_with (fail)
    go_ret
    exact ⟨_, rfl, HF.out⟩
  · rw [show ((clN n : Nat) : Int) = 32 by unfold clN; omega] at HF ⊢
    go_enter Try.func26, Try.ntmps26
    go_wp2_with (fail)
    go_ret
    exact ⟨_, rfl, HF.out⟩
  · rw [show ((clN n : Nat) : Int) = n by unfold clN; omega] at HF ⊢
    go_enter Try.func26, Try.ntmps26
    go_wp2_with (fail)
    go_ret
    exact ⟨_, rfl, HF.out⟩
set_option maxRecDepth 100000 in
set_option maxHeartbeats 4000000 in
theorem rnew_any (n : Int) (h : FK w0 X l w) : Calls Try.prog 10 #[.int .i64 n] w fun e w' => ∃ r, e = .returned (.pointer (some ⟨r, 0, none⟩)) ∧ RD w0 X r (clN n) [] [] l w' := by
  have H := Lib.hid h
  clear h
  go_enter Try.func10, Try.ntmps10
  go_wp2_with (fail)
  refine (r10new n H.out).mono ?_
  rintro e w1 ⟨p, rfl, hK⟩
  have c0 := FK.cell hK (j := 0) rfl
  have HR := Lib.hid (show RD w0 X w1.heap.size (clN n) [] [] l _ from ⟨.slice none 0 0, .slice none 0 0, [], rfl, FK.box hK.drop.nilO.nilS 32 [.int .i64 (clN n), .slice none 0 0, .slice none 0 0]⟩)
  clear hK H
  go_wp2_with (fail)
  go_ret
  exact ⟨_, rfl, HR.out⟩
end
end Go.Proofs.Ytagnipkannogoaa
