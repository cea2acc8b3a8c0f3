/-
  buddy's document: New.
-/
import Derived.Test.YtilcdnkjfbkpnaaBdRef
import Derived.Test.YtilcdnkjfbkpnaaShl
namespace Go.Proofs.Ytilcdnkjfbkpnaa
open Go.RowKit Go

/-- The greatest order below k of a block that begins at a and ends within n; 0 without one. -/
def bestK (a n : Nat) : Nat → Nat
  | 0 => 0
  | k + 1 => if a % 2 ^ k = 0 ∧ a + 2 ^ k ≤ n then k else bestK a n k
/-- The free blocks at first, from a on. -/
def newF (n : Nat) : Nat → Nat → List (Int × Int)
  | 0, _ => []
  | f + 1, a => if a < n then ((a : Int), (bestK a n 11 : Int)) :: newF n f (a + 2 ^ bestK a n 11) else []
def newL (n : Nat) : List (Int × Int) := newF n n 0

theorem best_lt (a n : Nat) : ∀ k, k ≤ 11 → bestK a n k ≤ 10
  | 0, _ => Nat.zero_le _
  | k + 1, h => by
    unfold bestK
    split
    · omega
    · exact best_lt a n k (by omega)
theorem best_fits (a n : Nat) (h : a < n) : ∀ k, a + 2 ^ bestK a n k ≤ n
  | 0 => h
  | k + 1 => by
    unfold bestK
    split
    · rename_i hc; exact hc.2
    · exact best_fits a n h k
def BNew (w : World) (n : Nat) (e : Ending) (w' : World) : Prop := ∃ r v u, e = .returned (.pointer (some ⟨r, 0, none⟩)) ∧ BRef w' r n (newL n) [] v u ∧ w.heap.size ≤ r ∧ Below w.heap.size w w'
set_option maxRecDepth 100000 in
set_option maxHeartbeats 2000000 in
theorem bnew_any (n : Nat) (h1 : 1 ≤ n) (h2 : n ≤ 128) (w : World) : Calls Try.prog 11 #[.int .i64 n] w (BNew w n) := by
  obtain ⟨i0, hi, hz0, hz1, hz2⟩ := info_parts infoBlock
  have HB0 := Lib.hid ((Below.refl _ w).alloc (Nat.le_refl _) (.cells #[.int .i64 n, .slice none 0 0, .slice none 0 0] 40))
  have HR0 := Lib.hid (RowAt.new w #[.int .i64 n, .slice none 0 0, .slice none 0 0] 40 3 (brV n (.slice none 0 0) (.slice none 0 0)) (fun i hi => by
    rcases (show i = 0 ∨ i = 1 ∨ i = 2 by omega) with rfl | rfl | rfl <;> rfl))
  have HS := Lib.hid (show (w.alloc (.cells #[.int .i64 n, .slice none 0 0, .slice none 0 0] 40)).heap.size = w.heap.size + 1 by simp)
  go_enter Try.func11, Try.ntmps11
  go_wp2_with (fail)
  generalize hr : w.heap.size = r at *
  generalize w.alloc (.cells #[.int .i64 n, .slice none 0 0, .slice none 0 0] 40) = w1 at *
  go_loopw [4] (fun i wr => ∃ (a f : Nat) (out : List (Int × Int)) (v : Value), i = .int .i64 a ∧ a + out.length ≤ 2 * a ∧ a ≤ 1000 ∧ n ≤ a + f ∧ out ++ newF n f a = newL n ∧ RowAt wr r 3 (brV n v (.slice none 0 0)) ∧
    Hid (wr.ownsRow (r + 1) 42 2 v out.length (recV encB out)) ∧ Below r w wr) (fun i _ => n - (intOf i).toNat)
  case atStart => exact ⟨0, n, [], .slice none 0 0, rfl, by simp, by omega, by omega, rfl, HR0.out, World.ownsRow_nil _ _ _ _, HB0.out⟩
  case round =>
    obtain ⟨a, f, out, v, rfl, hl, ha, hf, he, hR, HO, hB⟩ := hrel
    have HR := Lib.hid hR
    have HB := Lib.hid hB
    clear hR hB
    by_cases hlt : a < n
    · go_wp2_with (fail)
      go_loop [5, 6] (fun t i => ∃ k : Nat, k ≤ 11 ∧ i = .int .i64 k ∧ t = .int .i64 (bestK a n k)) (fun _ i => 11 - (intOf i).toNat)
      case atStart => exact ⟨0, by decide, rfl, rfl⟩
      case round =>
        obtain ⟨k, hk, rfl, rfl⟩ := hrel
        by_cases hk2 : k < 11
        · obtain ⟨p, hp⟩ : ∃ p, 2 ^ k = p := ⟨_, rfl⟩
          have hp2 := two_pow_small (k := k) (by omega)
          rw [hp] at hp2
          obtain ⟨p1, p2⟩ := hp2
          have HBK := Lib.hid (show bestK a n (k + 1) = if a % p = 0 ∧ a + p ≤ n then k else bestK a n k by rw [← hp]; rfl)
          have HP := Lib.hid hp
          have em : ((a : Int) % (p : Int)) = ((a % p : Nat) : Int) := (Int.natCast_emod a p).symm
          clear hp
          by_cases c1 : a % p = 0
          · have em2 : ((a : Int) % (p : Int) == 0) = true := by rw [em, c1]; rfl
            by_cases c2 : a + p ≤ n
            · have HE := Lib.hid (show bestK a n (k + 1) = k by rw [HBK.out, if_pos ⟨c1, c2⟩])
              clear em
              go_wp2_with (refine wpList_shl1 rfl _ _ _ _ rfl .u64 k p (by omega) HP.out rfl rfl ?_)
              go_round
              case rel => exact ⟨k + 1, hk2, by go_num, by rw [HE.out]⟩
              case measure => simp [intOf]; omega
            · have HE := Lib.hid (show bestK a n (k + 1) = bestK a n k by rw [HBK.out, if_neg (fun h => c2 h.2)])
              have c3 : n < a + p := by omega
              clear em c2
              go_wp2_with (refine wpList_shl1 rfl _ _ _ _ rfl .u64 k p (by omega) HP.out rfl rfl ?_)
              go_round
              case rel => exact ⟨k + 1, hk2, by go_num, by rw [HE.out]⟩
              case measure => simp [intOf]; omega
          · have HE := Lib.hid (show bestK a n (k + 1) = bestK a n k by rw [HBK.out, if_neg (fun h => c1 h.1)])
            have em2 : ((a : Int) % (p : Int) == 0) = false := by
              rw [em]
              simpa using (show ((a % p : Nat) : Int) ≠ 0 by omega)
            clear em c1
            go_wp2_with (refine wpList_shl1 rfl _ _ _ _ rfl .u64 k p (by omega) HP.out rfl rfl ?_)
            go_round
            case rel => exact ⟨k + 1, hk2, by go_num, by rw [HE.out]⟩
            case measure => simp [intOf]; omega
        · obtain rfl : k = 11 := by omega
          have hbl := best_lt a n 11 (by decide)
          have hbf := best_fits a n hlt 11
          obtain ⟨p, hp⟩ : ∃ p, 2 ^ bestK a n 11 = p := ⟨_, rfl⟩
          have hp2 := two_pow_small hbl
          rw [hp] at hp2 hbf
          obtain ⟨p1, p2⟩ := hp2
          have HP := Lib.hid hp
          obtain ⟨f', rfl⟩ : ∃ f', f = f' + 1 := ⟨f - 1, by omega⟩
          have HE := Lib.hid (show out ++ [((a : Int), (bestK a n 11 : Int))] ++ newF n f' (a + p) = newL n by
            rw [← he, ← hp, List.append_assoc]
            show _ = out ++ (if a < n then _ else [])
            rw [if_pos hlt]; rfl)
          have c1 : wr.cell? ⟨r, 1, none⟩ = some v := HR.out.cell 1 (by decide)
          clear hp he
          generalize bestK a n 11 = q at *
          go_wp2_with (at_builtin; refine wpList_append_one wr rfl _ _ 38 rfl (r + 1) 42 i0 _ 2 16 Try.underlying38 hi hz0 hz1 hz2 rfl (by decide) _ _ _ #[.int .i64 a, .int .i64 q] HO.out HR.out.lt rfl rfl rfl (block_one _ _) (by omega) (by decide) ?_)
          intro v' w3 hown ho _
          have hown2 : w3.ownsRow (r + 1) 42 2 v' (out ++ [((a : Int), (q : Int))]).length (recV encB (out ++ [((a : Int), (q : Int))])) := by
            rw [List.length_append, recV_append, recV_single]
            exact hown
          have hr3 := HR.out.only ho (fun e => by have := (HO.out.lt r e).1; omega)
          have HB3 := Lib.hid (ho.below HB.out (Nat.le_of_lt HR.out.lt) (fun j hj => by have := (HO.out.lt j hj).1; omega))
          have c3 : w3.cell? ⟨r, 1, none⟩ = some v := hr3.cell 1 (by decide)
          have f3 : w3.frozen? ⟨r, 1, none⟩ = false := hr3.frozen 1
          have HN1 := Lib.hid (show RowAt (w3.setCell ⟨r, 1, none⟩ v') r 3 (brV n v' (.slice none 0 0)) from (hr3.setCell 1 v').ext (fun i hi => by
            unfold updV brV
            rcases (show i = 0 ∨ i = 1 ∨ i = 2 by omega) with rfl | rfl | rfl <;> simp))
          have HN2 := Lib.hid (owns_only hown2 (Only.setCell (S := Eq r) w3 ⟨r, 1, none⟩ rfl v') (fun k hk e => by have := (hown2.lt k hk).1; omega))
          have HN3 := Lib.hid (HB3.out.setCell (p := ⟨r, 1, none⟩) (Nat.le_refl _) v')
          obtain ⟨a2, cap2, hv2, _⟩ := owns_slice hown2
          have hll : (out ++ [((a : Int), (q : Int))]).length = out.length + 1 := by simp
          rw [hll] at hv2
          subst hv2
          clear hown hown2 ho hr3 HB3 HO HR HB c1
          go_wp2_with (refine wpList_shl1 rfl _ _ _ _ rfl .u64 q p hbl HP.out rfl rfl ?_)
          go_roundw
          case rel => exact ⟨a + p, f', out ++ [((a : Int), (q : Int))], _, by go_num, by rw [hll]; omega, by omega, by omega, HE.out, HN1.out, HN2, HN3.out⟩
          case measure => simp [intOf]; omega
    · have hend : newF n f a = [] := by
        cases f with
        | zero => rfl
        | succ f =>
          show (if a < n then _ else []) = []
          rw [if_neg hlt]
      rw [hend, List.append_nil] at he
      subst he
      obtain ⟨a2, cap2, rfl, hs⟩ := RecsAt.of_owns HO.out
      have HN := Lib.hid (show BNew w n (.returned (.pointer (some ⟨r, 0, none⟩))) wr from
        ⟨r, _, _, rfl, ⟨HR.out, ⟨a2, cap2, rfl, hs⟩, ⟨none, 0, rfl, RecsAt.nil _ _ _⟩⟩, by omega, by rw [hr]; exact HB.out⟩)
      clear HO hs HR HB
      go_wp2_with (fail)
      go_ret
      exact HN.out
end Go.Proofs.Ytilcdnkjfbkpnaa
