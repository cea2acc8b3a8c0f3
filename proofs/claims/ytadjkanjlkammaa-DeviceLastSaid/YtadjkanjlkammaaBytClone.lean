/-
  slices.Clone of bytes.
-/
import Derived.Test.YtadjkanjlkammaaByt
namespace Go.Proofs.Ytadjkanjlkammaa
open Go.RowKit Go

theorem old_alloc {w : World} {a : Addr} {news : List Value} {ob : Obj} (h : ∀ j u, news[j]? = some u → w.cell? (a.add j) = some u) : ∀ j u, news[j]? = some u → (w.alloc ob).cell? (a.add j) = some u := fun j u hj => by
  have h1 := h j u hj
  have hb := World.block_lt_of_cell? _ _ h1
  rw [World.cell?_of_block (w := w) (Below.heap_alloc w ob _ hb)]
  exact h1

/-- What a call that makes n bytes leaves. -/
def MadeB (w : World) (n : Nat) (f : Nat → UInt8) (e : Ending) (w' : World) : Prop :=
  ∃ g cap, e = .returned (.slice (some ⟨g, 0, none⟩) n cap) ∧ w.heap.size ≤ g ∧ n ≤ cap ∧ RowAt w' g n (byV f) ∧ Below w.heap.size w w'

theorem row_bytes {w : World} {base n m : Nat} {v : Value} {xs : List Value} {f : Nat → UInt8} (h : w.ownsRow base 5 1 v n xs) (hm : n = m) (hf : ∀ i, i < m → xs[i]? = some (byV f i)) (hv : v ≠ .slice none 0 0) :
    ∃ g cap, v = .slice (some ⟨g, 0, none⟩) m cap ∧ base ≤ g ∧ m ≤ cap ∧ RowAt w g m (byV f) := by
  subst hm
  obtain ⟨g, cap, e, h1, _, h3, R⟩ := RowAt.of_owns h (byV f) (fun i hi => hf i (by omega)) hv
  rw [Nat.mul_one] at R
  exact ⟨g, cap, e, h1, h3, R⟩

theorem cloneBytes {w : World} {ad : Addr} {n c : Nat} {x : Nat → UInt8} (S : Src w (some ad) n x) (hn : n ≤ 1048576) :
    Calls Try.prog 22 #[.slice (some ad) n c] w (MadeB w n x) := by
  obtain ⟨i0, hi, hz0, hz1, hz2⟩ := info_parts infoByte
  have q : ∀ (w : World) (a : Option Addr) (n c n' c' : Nat), (binOp .eql 32 (.slice a n c) (.slice none n' c')).run Try.prog w = .ok (.bool a.isNone) w := fun w a n c n' c' => Lib.run_eql_slice_nil w _ _ a n c n' c' Try.underlying32
  have HS := Lib.hid S
  clear S
  go_enter Try.func22, Try.ntmps22
  go_wp2_with (at_builtin; refine wpList_append_src _ rfl _ _ 32 rfl w.heap.size 5 i0 _ 1 1 Try.underlying32 hi hz0 hz1 hz2 rfl (by decide) _ _ _ rfl (World.ownsRow_made w #[] 0 (Nat.le_refl _) (Nat.zero_le _) (by simp)) (some ad) n c (bytL n x) rfl ?q1 ?q2 (bytL_one n x) ?q4 ?q5 ?q6 ?_)
  case q1 => rw [bytL_len, Nat.mul_one]
  case q2 => exact (HS.out.later ((Below.refl _ w).alloc (Nat.le_refl _) _)).cells
  case q4 => unfold maxLen; omega
  case q5 => omega
  case q6 => simp
  intro v' w1 hown hgr hnil
  obtain ⟨g, cap, rfl, hg, hcap, hr⟩ := row_bytes hown rfl (fun i hi => bytL_at hi) hnil
  have HR := Lib.hid hr
  have HB := Lib.hid (((Below.refl _ w).alloc (Nat.le_refl _) _).grown hgr (by simp) (by intro k hk; simp [Value.ownBlock] at hk; omega))
  clear hown hgr hnil hr
  go_wp2_with (fail)
  go_ret
  exact ⟨g, cap, rfl, hg, hcap, HR.out, HB.out⟩
end Go.Proofs.Ytadjkanjlkammaa
