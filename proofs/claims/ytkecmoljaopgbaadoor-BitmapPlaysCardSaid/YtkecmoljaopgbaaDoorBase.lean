/-
  The set of numbers in memory; what owns, bit and Has come to.
-/
import Derived.Test.YtkecmoljaopgbaaDoorRows
import Derived.Test.YtkecmoljaopgbaaDoorBits
import Derived.WalkKit
import Derived.WalkSpells
import Derived.WalkLawsBesides
import Derived.Deep.QuietTactic
import Derived.Deep.RegionWith
import Derived.Deep.RegionHeld3
import Derived.StillTailTactics
import Derived.BigQuiet
import Derived.Lib.Hide
namespace Go.Proofs.YtkecmoljaopgbaaDoor
open Go.RowKit Go Bm

/-- A contract that leaves the world alone, met in the middle of a quiet region. -/
theorem quiet_eq {P : Program} {f : FuncId} {args : Array Value} {w : World} {n : Nat} {v : Value}
    (h : Calls P f args (w.drewN n) fun e w' => e = .returned v ∧ w.drewN n = w') : Calls P f args (w.drewN n) fun e w'' => e = .returned v ∧ ∃ m, w'' = w.drewN m :=
  h.mono fun _ _ ⟨he, hm⟩ => ⟨he, n, hm.symm⟩

theorem still_tail {P : Program} {id : Nat} {Q : Exit → Act → World → Prop} {a : Act} {w : World} {l : List Oper} (n : Nat) (hm : P.follows .mixedOrders = true) (hB : Region.lexTailB .any l.toArray n = true)
    (h : wpStill P l.toArray w.drew (fun a' => wpList P l.toArray Q (l.drop n) a' w.drew) (l.take n) a) : (Code.region id l.toArray true).wp P Q a w :=
  wp_region_still_tail n hm hB h
theorem still_eq {P : Program} {f : FuncId} {args : Array Value} {w : World} {v : Value}
    (h : Calls P f args w fun e w' => e = .returned v ∧ w = w') : Calls P f args w fun e w'' => e = .returned v ∧ w'' = w :=
  h.mono fun _ _ ⟨he, hm⟩ => ⟨he, hm.symm⟩

theorem quo_wrap (i : Nat) (h : i ≤ 65536) : IntKind.i64.wrap ((i : Int) / 64) = (i : Int) / 64 := IntWalk.i64_in _ (by omega)
theorem quo_nat (i : Nat) : ((i : Int) / 64).toNat = i / 64 := by omega
theorem quo_ge (i : Nat) : 0 ≤ (i : Int) / 64 := by omega
theorem quo_lt (i n : Nat) (h : i < n) : (i : Int) / 64 < ((n : Int) + 63) / 64 := by omega

theorem owns_nil (i : Int) (w : World) :
    Calls Tryd.prog 25 #[.pointer none, .int .i64 i] w fun e w' => e = .returned (.bool false) ∧ w = w' := by
  go_enter Tryd.func25, Tryd.ntmps25
  go_wp2
  go_ret
  exact ⟨rfl, rfl⟩

/-- i is none of the n numbers. -/
theorem owns_no (p : Nat) (n i : Int) (w : World) (h0 : w.cell? ⟨p, 0, none⟩ = some (.int .i64 n)) (h : i < 0 ∨ n ≤ i) :
    Calls Tryd.prog 25 #[.pointer (some ⟨p, 0, none⟩), .int .i64 i] w fun e w' => e = .returned (.bool false) ∧ w = w' := by
  by_cases h1 : 0 ≤ i
  · have h2 : n ≤ i := by omega
    clear h
    go_enter Tryd.func25, Tryd.ntmps25
    go_wp2
    go_ret
    exact ⟨by simp; omega, rfl⟩
  · clear h
    go_enter Tryd.func25, Tryd.ntmps25
    go_wp2
    go_ret
    exact ⟨rfl, rfl⟩

theorem owns_yes (p : Nat) (n i : Int) (w : World) (h0 : w.cell? ⟨p, 0, none⟩ = some (.int .i64 n)) (h1 : 0 ≤ i) (h2 : i < n) :
    Calls Tryd.prog 25 #[.pointer (some ⟨p, 0, none⟩), .int .i64 i] w fun e w' => e = .returned (.bool true) ∧ w = w' := by
  go_enter Tryd.func25, Tryd.ntmps25
  go_wp2
  go_ret
  exact ⟨rfl, rfl⟩

theorem bit_any (i : Int) (w : World) (h0 : 0 ≤ i) (hi : i ≤ 65536) :
    Calls Tryd.prog 26 #[.int .i64 i] w fun e w' => e = .returned (.int .u64 (bitI i.toNat)) ∧ w = w' := by
  obtain ⟨i, rfl⟩ := Int.eq_ofNat_of_zero_le h0
  have E := Lib.hid (bitI_wrap i)
  go_enter Tryd.func26, Tryd.ntmps26
  go_wp2
  go_ret
  refine ⟨?_, rfl⟩
  show Ending.returned (Value.int .u64 _) = _
  rw [E.out]; rfl

/-- A set for n numbers lies at p, its words at wb: f says of each number whether it is in. -/
structure SetAt (w : World) (p wb n : Nat) (f : Nat → Bool) : Prop where
  size : w.cell? ⟨p, 0, none⟩ = some (.int .i64 n)
  words : w.cell? ⟨p, 1, none⟩ = some (.slice (some ⟨wb, 0, none⟩) ((n + 63) / 64) ((n + 63) / 64))
  word : ∀ k, k < (n + 63) / 64 → w.cell? ⟨wb, k, none⟩ = some (.int .u64 (Bm.word f k))
  free : ∀ k, k < (n + 63) / 64 → w.frozen? ⟨wb, k, none⟩ = false
  out : ∀ i, n ≤ i → f i = false
  ne : p ≠ wb
  max : n ≤ 65536

theorem SetAt.drewN {w : World} {p wb n : Nat} {f : Nat → Bool} (S : SetAt w p wb n f) (k : Nat) : SetAt (w.drewN k) p wb n f :=
  ⟨S.size, S.words, S.word, S.free, S.out, S.ne, S.max⟩

theorem has_no (p : Nat) (n i : Int) (w : World) (h0 : w.cell? ⟨p, 0, none⟩ = some (.int .i64 n)) (h : i < 0 ∨ n ≤ i) :
    Calls Tryd.prog 19 #[.pointer (some ⟨p, 0, none⟩), .int .i64 i] w fun e w' => e = .returned (.bool false) ∧ ∃ m, w' = w.drewN m := by
  go_enter Tryd.func19, Tryd.ntmps19
  go_wp2
  go_quiet ((go_at_call 25; exact quiet_eq (owns_no p n i _ (by exact h0) h)))
  go_wp2
  go_ret
  exact ⟨rfl, _, rfl⟩

theorem has_any (p wb n : Nat) (f : Nat → Bool) (i : Nat) (w : World) (S : SetAt w p wb n f) (hi : i < n) :
    Calls Tryd.prog 19 #[.pointer (some ⟨p, 0, none⟩), .int .i64 i] w fun e w' => e = .returned (.bool (f i)) ∧ ∃ m, w' = w.drewN m := by
  have h0 := S.size
  have h1 := S.words
  have h2 := S.word (i / 64) (by omega)
  have hm := S.max
  have hq : i / 64 < (n + 63) / 64 := by omega
  go_enter Tryd.func19, Tryd.ntmps19
  go_wp2
  go_quiet ((first | (go_at_call 25; exact quiet_eq (owns_yes p n i _ (by exact h0) (by omega) (by omega))) | (go_at_call 26; exact quiet_eq (bit_any i _ (by omega) (by omega)))))
  go_wp2
  go_ret
  exact ⟨congrArg (fun b => Ending.returned (Value.bool b)) (bits_and_has f i), _, rfl⟩

/-- Putting or taking i: the one word turns. -/
theorem SetAt.store {w : World} {p wb n : Nat} {f : Nat → Bool} (S : SetAt w p wb n f) (i : Nat) (hi : i < n) (b : Bool) {v : Int} (hv : v = ((Bm.word (upd f i b) (i / 64) : Nat) : Int)) :
    SetAt (w.setCell ⟨wb, i / 64, none⟩ (.int .u64 v)) p wb n (upd f i b) := by
  subst hv
  have hne : ∀ o, (⟨wb, i / 64, none⟩ : Addr) ≠ ⟨p, o, none⟩ := fun o h => S.ne (congrArg Addr.block h).symm
  refine ⟨?_, ?_, fun k hk => ?_, fun k hk => ?_, fun j hj => ?_, S.ne, S.max⟩
  · rw [World.cell?_setCell_other _ _ _ _ (hne 0)]; exact S.size
  · rw [World.cell?_setCell_other _ _ _ _ (hne 1)]; exact S.words
  · by_cases h : k = i / 64
    · subst h
      exact World.cell?_setCell_same _ _ _ (S.word _ hk)
    · rw [World.cell?_setCell_other _ _ _ _ (fun e => h (congrArg Addr.off e).symm), word_upd_other f i b h]
      exact S.word k hk
  · rw [World.frozen?_setCell]; exact S.free k hk
  · rw [upd_other f b (by omega)]; exact S.out j hj

end Go.Proofs.YtkecmoljaopgbaaDoor
