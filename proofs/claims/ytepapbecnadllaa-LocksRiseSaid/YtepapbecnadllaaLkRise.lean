/-
  The walk of LocksRise: it returns true, and below the old heap nothing has turned.
-/
import Derived.Test.YtepapbecnadllaaLkStep
import Derived.IntWalk
namespace Go.Proofs.Ytepapbecnadllaa
open Go.RowKit Go

/-- Of the first n locks who holds those of the bits. -/
def setH (n : Nat) (who : Int) (bit : Nat → Bool) (i : Nat) : Int := if i < n ∧ bit i = true then who else -1
def cutH (F : Nat → Int) (k : Nat) (i : Nat) : Int := if i < k then F i else -1
theorem cut_zero (F : Nat → Int) : cutH F 0 = fun _ => -1 := by
  funext i; unfold cutH; rw [if_neg (by omega)]
theorem cut_yes {F : Nat → Int} {k : Nat} {who : Int} (h : F k = who) : updH (cutH F k) k who = cutH F (k + 1) := by
  funext i
  unfold updH cutH
  by_cases e : i = k
  · subst e; rw [if_pos rfl, if_pos (by omega), h]
  · rw [if_neg e]
    by_cases h1 : i < k
    · rw [if_pos h1, if_pos (by omega)]
    · rw [if_neg h1, if_neg (by omega)]
theorem cut_no {F : Nat → Int} {k : Nat} (h : F k = -1) : cutH F k = cutH F (k + 1) := by
  funext i
  unfold cutH
  by_cases e : i = k
  · subst e; rw [if_neg (by omega), if_pos (by omega), h]
  · by_cases h1 : i < k
    · rw [if_pos h1, if_pos (by omega)]
    · rw [if_neg h1, if_neg (by omega)]
theorem cut_all {n : Nat} {who : Int} {bit : Nat → Bool} : cutH (setH n who bit) n = setH n who bit := by
  funext i
  unfold cutH setH
  by_cases h : i < n
  · rw [if_pos h]
  · rw [if_neg h, if_neg (fun e => h e.1)]

theorem heldL_mem {H : Nat → Int} {who : Int} : ∀ (k : Nat) (y : Int), y ∈ heldL H who k ↔ ∃ x : Nat, x < k ∧ y = x ∧ H x = who
  | 0, y => ⟨fun h => absurd h List.not_mem_nil, fun ⟨_, h, _⟩ => absurd h (Nat.not_lt_zero _)⟩
  | k + 1, y => by
    have ih := heldL_mem (H := H) (who := who) k y
    by_cases hk : H k = who
    · rw [heldL_yes hk, List.mem_append, ih, List.mem_singleton]
      constructor
      · rintro (⟨x, h1, h2, h3⟩ | rfl)
        · exact ⟨x, by omega, h2, h3⟩
        · exact ⟨k, by omega, rfl, hk⟩
      · rintro ⟨x, h1, h2, h3⟩
        by_cases e : x = k
        · subst e; exact .inr h2
        · exact .inl ⟨x, by omega, h2, h3⟩
    · rw [heldL_no hk, ih]
      constructor
      · rintro ⟨x, h1, h2, h3⟩
        exact ⟨x, by omega, h2, h3⟩
      · rintro ⟨x, h1, h2, h3⟩
        by_cases e : x = k
        · subst e; exact absurd h3 hk
        · exact ⟨x, by omega, h2, h3⟩
theorem heldL_nodup {H : Nat → Int} {who : Int} : ∀ k : Nat, (heldL H who k).Nodup
  | 0 => List.nodup_nil
  | k + 1 => by
    have ih := heldL_nodup (H := H) (who := who) k
    by_cases hk : H k = who
    · rw [heldL_yes hk, List.nodup_append]
      refine ⟨ih, by simp, fun a ha b hb => ?_⟩
      obtain ⟨x, h1, rfl, _⟩ := (heldL_mem k a).1 ha
      rw [List.mem_singleton] at hb
      subst hb
      omega
    · rw [heldL_no hk]; exact ih
theorem getD_of {l : List Int} {p : Nat} (h : p < l.length) : l.getD p 0 = l[p] := by
  rw [List.getD_eq_getElem?_getD, List.getElem?_eq_getElem h]; rfl
theorem held_at1 {H : Nat → Int} {who : Int} {n p : Nat} (h : p < (heldL H who n).length) : ∃ x : Nat, (heldL H who n).getD p 0 = x ∧ x < n ∧ H x = who := by
  obtain ⟨x, h1, h2, h3⟩ := (heldL_mem n _).1 (List.getElem_mem h)
  exact ⟨x, by rw [getD_of h]; exact h2, h1, h3⟩
theorem held_at2 {H : Nat → Int} {who : Int} {n p q : Nat} (hp : p < (heldL H who n).length) (hq : q < (heldL H who n).length) (hne : p ≠ q) : (heldL H who n).getD p 0 ≠ (heldL H who n).getD q 0 := by
  rw [getD_of hp, getD_of hq]
  have := List.pairwise_iff_getElem.1 (heldL_nodup (H := H) (who := who) n)
  by_cases h : p < q
  · exact this p q hp hq h
  · exact fun e => this q p hq hp (by omega) e.symm
theorem held_at3 {H : Nat → Int} {who : Int} {n x : Nat} (hx : x < n) (h : H x = who) : ∃ p, p < (heldL H who n).length ∧ (heldL H who n).getD p 0 = x := by
  obtain ⟨p, hp, e⟩ := List.mem_iff_getElem.1 ((heldL_mem n (x : Int)).2 ⟨x, hx, rfl, h⟩)
  exact ⟨p, hp, by rw [getD_of hp]; exact e⟩

theorem turn_ne {m c i j : Nat} (h1 : i < j) (h2 : j < m) : (i + c) % m ≠ (j + c) % m := fun e => by
  have hi := Nat.div_add_mod (i + c) m
  have hj := Nat.div_add_mod (j + c) m
  rw [e] at hi
  by_cases h : (j + c) / m ≤ (i + c) / m
  · have := Nat.mul_le_mul_left m h
    omega
  · have := Nat.mul_le_mul_left m (show (i + c) / m + 1 ≤ (j + c) / m by omega)
    rw [Nat.mul_add] at this
    omega
theorem turn_all {m c p : Nat} (h : p < m) : ∃ i, i < m ∧ (i + c) % m = p := by
  have hc := Nat.mod_lt c (show 0 < m by omega)
  have hd := Nat.div_add_mod c m
  by_cases hp : c % m ≤ p
  · refine ⟨p - c % m, by omega, ?_⟩
    rw [show p - c % m + c = p + m * (c / m) by omega, Nat.add_mul_mod_self_left, Nat.mod_eq_of_lt h]
  · refine ⟨p + m - c % m, by omega, ?_⟩
    rw [show p + m - c % m + c = p + m + m * (c / m) by omega, Nat.add_mul_mod_self_left, Nat.add_mod_right, Nat.mod_eq_of_lt h]
/-- The first j of the list, told from the c-th one on, have been freed. -/
def freH (F : Nat → Int) (l : List Int) (c : Nat) : Nat → Nat → Int
  | 0 => F
  | j + 1 => updH (freH F l c j) (l.getD ((j + c) % l.length) 0).toNat (-1)
theorem fre_not {F : Nat → Int} {l : List Int} {c x : Nat} : ∀ j : Nat, (∀ i, i < j → (l.getD ((i + c) % l.length) 0).toNat ≠ x) → freH F l c j x = F x
  | 0, _ => rfl
  | j + 1, h => by
    show updH _ _ _ _ = _
    unfold updH
    rw [if_neg (fun e => h j (by omega) e.symm)]
    exact fre_not j (fun i hi => h i (by omega))
theorem fre_yes {F : Nat → Int} {l : List Int} {c x i : Nat} : ∀ j : Nat, i < j → (l.getD ((i + c) % l.length) 0).toNat = x → freH F l c j x = -1
  | 0, h, _ => absurd h (Nat.not_lt_zero _)
  | j + 1, h, e => by
    show updH _ _ _ _ = _
    unfold updH
    by_cases hx : x = (l.getD ((j + c) % l.length) 0).toNat
    · rw [if_pos hx]
    · rw [if_neg hx]
      refine fre_yes j ?_ e
      by_cases hij : i = j
      · subst hij; exact absurd e.symm hx
      · omega
section
variable {F : Nat → Int} {who : Int} {n c : Nat}
theorem fre_mine {j : Nat} (hj : j < (heldL F who n).length) : ∃ x : Nat, (heldL F who n).getD ((j + c) % (heldL F who n).length) 0 = x ∧ x < n ∧ freH F (heldL F who n) c j x = who := by
  have hp := Nat.mod_lt (j + c) (show 0 < (heldL F who n).length by omega)
  obtain ⟨x, e, h1, h2⟩ := held_at1 hp
  refine ⟨x, e, h1, ?_⟩
  rw [fre_not j, h2]
  intro i hi e2
  have hq := Nat.mod_lt (i + c) (show 0 < (heldL F who n).length by omega)
  obtain ⟨y, f, _, _⟩ := held_at1 hq
  have hne := held_at2 hq hp (turn_ne hi hj)
  rw [f] at e2 hne
  rw [e] at hne
  simp at e2
  omega
theorem fre_end (hw : 0 ≤ who) : heldW n (freH F (heldL F who n) c (heldL F who n).length) who = [] := by
  unfold heldW
  rw [if_neg (by omega)]
  refine List.eq_nil_iff_forall_not_mem.2 fun y hy => ?_
  obtain ⟨x, h1, _, h3⟩ := (heldL_mem n y).1 hy
  by_cases h : F x = who
  · obtain ⟨p, hp, e⟩ := held_at3 h1 h
    obtain ⟨i, hi, ei⟩ := turn_all (c := c) hp
    rw [fre_yes (x := x) (i := i) _ hi (by rw [ei, e]; rfl)] at h3
    omega
  · by_cases hq : ∃ i, i < (heldL F who n).length ∧ ((heldL F who n).getD ((i + c) % (heldL F who n).length) 0).toNat = x
    · obtain ⟨i, hi, e⟩ := hq
      rw [fre_yes (x := x) (i := i) _ hi e] at h3
      omega
    · rw [fre_not _ (fun i hi e => hq ⟨i, hi, e⟩)] at h3
      exact h h3
end

/-- A list of ints at a, from block B on. -/
def IntsAt (w : World) (B : Nat) (a : Option Addr) (l : List Int) : Prop := 0 < l.length → ∃ g, a = some ⟨g, 0, none⟩ ∧ B ≤ g ∧ RowAt w g l.length (fun i => .int .i64 (l.getD i 0))
theorem IntsAt.later {w w' : World} {B : Nat} {a : Option Addr} {l : List Int} (h : IntsAt w B a l) (hb : Below w.heap.size w w') : IntsAt w' B a l := fun hp => by
  obtain ⟨g, e, hg, R⟩ := h hp
  exact ⟨g, e, hg, R.later hb⟩
theorem IntsAt.only {S : Nat → Prop} {w w' : World} {B : Nat} {a : Option Addr} {l : List Int} (h : IntsAt w B a l) (ho : Only S w w') (hs : ∀ k, S k → k < B) : IntsAt w' B a l := fun hp => by
  obtain ⟨g, e, hg, R⟩ := h hp
  exact ⟨g, e, hg, R.only ho (fun hk => by have := hs g hk; omega)⟩
theorem IntsAt.of_owns {w : World} {B : Nat} {v : Value} {l : List Int} (h : w.ownsRow B 3 1 v l.length (l.map (Value.int .i64))) : ∃ a cap, v = .slice a l.length cap ∧ IntsAt w B a l := by
  obtain ⟨a, cap, rfl, hr⟩ := owns_slice h
  refine ⟨a, cap, rfl, fun hp => ?_⟩
  obtain ⟨g, rfl, hg, _, A, t, hA, hi⟩ := hr hp
  refine ⟨g, rfl, hg, A, t, hA, fun i hlt => ?_⟩
  rw [hi i (by omega), List.getElem?_map, List.getElem?_eq_getElem hlt]
  show some (Value.int .i64 l[i]) = some (Value.int .i64 (l.getD i 0))
  rw [getD_of hlt]

/-- An int as a uint64, modulo so many: below them. -/
theorem u64_mod (x n : Int) (h1 : 1 ≤ n) (h2 : n ≤ 1024) : ∃ k : Nat, (k : Int) < n ∧ wrap64 ((IntKind.u64.wrap x).tmod n) = k := by
  have h0 : 0 ≤ IntKind.u64.wrap x := by rw [IntKind.wrap_u64]; omega
  have e1 : (IntKind.u64.wrap x).tmod n = (IntKind.u64.wrap x) % n := Int.tmod_eq_emod_of_nonneg h0
  have l1 := Int.emod_lt_of_pos (IntKind.u64.wrap x) (show 0 < n by omega)
  have l2 := Int.emod_nonneg (IntKind.u64.wrap x) (show n ≠ 0 by omega)
  refine ⟨((IntKind.u64.wrap x) % n).toNat, by omega, ?_⟩
  rw [e1, IntWalk.wrap64_in _ ⟨by omega, by omega⟩]; omega

set_option maxRecDepth 100000 in
set_option maxHeartbeats 4000000 in
theorem lawRise_any (nn who : Int) (bits : Nat) (turn : Int) (w : World) :
    Calls Try.prog 7 #[.int .i64 nn, .int .i64 who, .int .u64 bits, .int .i64 turn] w fun e w' => e = .returned (.bool true) ∧ Below w.heap.size w w' := by
  by_cases hw : 0 ≤ who
  · obtain ⟨i0, hi, hz0, hz1, hz2⟩ := info_parts infoInt
    obtain ⟨bit, hbit⟩ : ∃ bit : Nat → Bool, ∀ k : Nat, (((bits : Int) / 2 ^ k).tmod 2 == 0) = !bit k := ⟨fun k => !(((bits : Int) / 2 ^ k).tmod 2 == 0), fun k => by simp⟩
    have HBIT := Lib.hid hbit
    clear hbit
    go_enter Try.func7, Try.ntmps7
    go_wp2_with (fail)
    refine (new_any nn w).mono ?_
    rintro e w1 ⟨d, rfl, L, d1, hb⟩
    have HL := Lib.hid (show StAt w d (clampL nn) (fun _ => -1) w1 from ⟨L, hb, d1⟩)
    generalize clampL nn = n at HL
    obtain ⟨B, hB⟩ : ∃ B, B = w1.heap.size := ⟨_, rfl⟩
    have hdB : d < B := by rw [hB]; exact L.lt
    have hwB : w.heap.size ≤ B := by rw [hB]; exact hb.size
    have hn64 := HL.out.tab.n1
    have hB1 : B ≤ w1.heap.size := by rw [hB]; exact Nat.le_refl _
    clear L hb hB
    obtain ⟨F, hF⟩ : ∃ F, F = setH n who bit := ⟨_, rfl⟩
    have HF := Lib.hid (show ∀ k, k < n → (bit k = true ∧ F k = who ∨ bit k = false ∧ F k = -1) from fun k hk => by
      rw [hF]
      unfold setH
      cases hb : bit k
      · exact .inr ⟨rfl, by simp⟩
      · exact .inl ⟨rfl, by simp [hk]⟩)
    have HFA := Lib.hid (show cutH F n = F by rw [hF]; exact cut_all)
    have HFZ := Lib.hid (cut_zero F)
    clear hF
    go_wp2_with (fail)
    refine (locks_at HL.out.tab).mono ?_
    rintro e w' ⟨rfl, rfl⟩
    go_wp2_with (fail)
    go_loopw [10, 25] (fun v i wr => ∃ k : Nat, k ≤ n ∧ i = .int .i64 k ∧ StAt w d n (cutH F k) wr ∧ B ≤ wr.heap.size ∧ Hid (wr.ownsRow B 3 1 v (heldL F who k).length ((heldL F who k).map (Value.int .i64)))) (fun _ i _ => n - (intOf i).toNat)
    case atStart => exact ⟨0, Nat.zero_le _, rfl, HFZ.out ▸ HL.out, hB1, World.ownsRow_nil _ _ _ _⟩
    case round =>
      clear HL HFZ
      obtain ⟨k, hk, rfl, hL, hS, HO⟩ := hrel
      have HL := Lib.hid hL
      clear hL
      by_cases hlt : k < n
      · have hbk := HBIT.out k
        rcases HF.out k hlt with ⟨b1, f1⟩ | ⟨b1, f1⟩
        · rw [b1] at hbk
          have hbk : (((bits : Int) / 2 ^ k).tmod 2 == 0) = false := hbk
          obtain ⟨t1, t2⟩ := try_above (n := n) (H := cutH F k) (who := who) (k := k) hw hlt (fun i hi => by unfold cutH; rw [if_neg (by omega)])
          have HT1 := Lib.hid t1
          have HT2 := Lib.hid t2
          have HY := Lib.hid (heldL_yes f1)
          have HC := Lib.hid (cut_yes f1)
          have HLN := Lib.hid (heldL_len F who k)
          clear t1 t2 b1 f1
          go_wp2_with (fail)
          clear hbk
          refine (try_is HL.out.tab who k true 0 HT1.out HT2.out).mono ?_
          rintro e w3 ⟨rfl, L, ho⟩
          have hL3 := HL.out.turn L ho
          simp only [if_true, Int.toNat_natCast] at hL3
          rw [HC.out] at hL3
          have HL3 := Lib.hid hL3
          have hS3 : B ≤ w3.heap.size := Nat.le_trans hS ho.size
          have HO3 := Lib.hid (owns_only HO.out ho (fun q hq e => by have := (HO.out.lt q hq).1; omega))
          clear L ho hL3 HL HO HT1 HT2 HC
          go_wp2_with (at_builtin; refine wpList_append_one w3 rfl _ _ 40 rfl B 3 i0 (.int .i64 0) 1 8 Try.underlying40 hi hz0 hz1 hz2 rfl (by decide) _ _ _ #[.int .i64 k] HO3.out hS3 rfl rfl rfl (one_cell _ _) (Nat.le_trans HLN.out (by omega)) (by decide) ?_)
          intro v' w4 hown ho _
          have HO4 := Lib.hid (show w4.ownsRow B 3 1 v' (heldL F who (k + 1)).length ((heldL F who (k + 1)).map (Value.int .i64)) by
            rw [HY.out]
            simpa using hown)
          have HL4 := Lib.hid (HL3.out.other ho (fun j hj => by have := (HO3.out.lt j hj).1; omega) (fun hj => by have := (HO3.out.lt d hj).1; omega))
          have hS4 : B ≤ w4.heap.size := Nat.le_trans hS3 ho.size
          clear hown ho HO3 HL3
          go_wp2_with (fail)
          go_roundw
          case rel => exact ⟨k + 1, hlt, by go_num, HL4.out, hS4, HO4⟩
          case measure => simp [intOf]; omega
        · rw [b1] at hbk
          have hbk : (((bits : Int) / 2 ^ k).tmod 2 == 0) = true := hbk
          have HY := Lib.hid (heldL_no (show F k ≠ who by omega))
          have HC := Lib.hid (cut_no f1)
          clear b1 f1
          go_wp2_with (fail)
          clear hbk
          go_roundw
          case rel => exact ⟨k + 1, hlt, by go_num, HC.out ▸ HL.out, hS, by rw [HY.out]; exact HO⟩
          case measure => simp [intOf]; omega
      · obtain rfl : n = k := by omega
        obtain ⟨a, cap, rfl, hI⟩ := IntsAt.of_owns HO.out
        have HI := Lib.hid hI
        have hL2 := HL.out
        rw [HFA.out] at hL2
        have HL2 := Lib.hid hL2
        have hlen := heldL_len F who n
        have HE := Lib.hid (fun c => fre_end (F := F) (n := n) (c := c) hw)
        have HM := Lib.hid (fun c j hj => fre_mine (F := F) (who := who) (n := n) (c := c) (j := j) hj)
        have HW := Lib.hid (show heldW n F who = heldL F who n from if_neg (by omega))
        clear HO hI HL HFA HF HBIT hL2
        generalize heldL F who n = l at *
        go_wp2_with (fail)
        refine (held_at HL2.out.tab who).mono ?_
        intro e w3 hh
        rw [HW.out] at hh
        obtain ⟨a3, cap3, rfl, hb, hr⟩ := hh.slice
        have HL3 := Lib.hid (HL2.out.later hb)
        have HI3 := Lib.hid (HI.out.later hb)
        have HR3 := Lib.hid (show IntsAt w3 B a3 l from fun hp => by
          obtain ⟨g, e, hg, R⟩ := hr hp
          exact ⟨g, e, by omega, R⟩)
        clear hh hb hr HL2 HI HW
        obtain ⟨c, hc, ec⟩ := u64_mod turn 64 (by decide) (by decide)
        go_wp2_with (fail)
        go_loopw [61] (fun i wr => ∃ j : Nat, j ≤ l.length ∧ i = .int .i64 j ∧ StAt w d n F wr ∧ IntsAt wr B a l ∧ IntsAt wr B a3 l) (fun i _ => l.length - (intOf i).toNat)
        case atStart => exact ⟨0, Nat.zero_le _, rfl, HL3.out, HI3.out, HR3.out⟩
        case round =>
          clear HL3 HI3 HR3
          obtain ⟨j, hj, rfl, hL, hI, hR⟩ := hrel
          have HL := Lib.hid hL
          have HI := Lib.hid hI
          have HR := Lib.hid hR
          clear hL hI hR
          by_cases hjl : j < l.length
          · obtain ⟨g, rfl, _, R1⟩ := HI.out (by omega)
            obtain ⟨g3, rfl, _, R3⟩ := HR.out (by omega)
            have c1 := R1.cell j hjl
            have c3 := R3.cell j hjl
            have HB := Lib.hid (fun m => below_drewN (Below.refl wr.heap.size wr) m)
            clear R1 R3
            go_wp2_with (fail)
            go_quiet (fail)
            have hb := HB.out nq
            have HL4 := Lib.hid (HL.out.later hb)
            have HI4 := Lib.hid (HI.out.later hb)
            have HR4 := Lib.hid (HR.out.later hb)
            clear hb HB HL HI HR c1 c3
            go_wp2_with (fail)
            go_roundw
            case rel => exact ⟨j + 1, hjl, by go_num, HL4.out, HI4.out, HR4.out⟩
            case measure => simp [intOf]; omega
          · clear HR
            go_wp2_with (fail)
            go_loopw [76] (fun i wr => ∃ j : Nat, j ≤ l.length ∧ i = .int .i64 j ∧ StAt w d n (freH F l c j) wr ∧ IntsAt wr B a l) (fun i _ => l.length - (intOf i).toNat)
            case atStart => exact ⟨0, Nat.zero_le _, rfl, HL.out, HI.out⟩
            case round =>
              clear HL HI hj hjl
              obtain ⟨j, hj, rfl, hL, hI⟩ := hrel
              have HL := Lib.hid hL
              have HI := Lib.hid hI
              clear hL hI
              by_cases hjl : j < l.length
              · obtain ⟨g, rfl, _, R1⟩ := HI.out (by omega)
                obtain ⟨x, ex, hx, hm⟩ := HM.out c j hjl
                have hp := Nat.mod_lt (j + c) (show 0 < l.length by omega)
                have c1 := R1.cell _ hp
                rw [ex] at c1
                have ep : ((j : Int) + (c : Int)).tmod (l.length : Int) = (((j + c) % l.length : Nat) : Int) := by
                  rw [Int.tmod_eq_emod_of_nonneg (by omega)]; simp
                have hfe : freeE n (freH F l c j) who x = 0 := by
                  unfold freeE
                  rw [if_pos (askB_iff.2 ⟨hw, by omega, by omega⟩), Int.toNat_natCast, if_pos hm]
                have HFE := Lib.hid hfe
                have HNE := Lib.hid (show updH (freH F l c j) x (-1) = freH F l c (j + 1) by
                  show _ = updH _ _ _
                  rw [ex]; rfl)
                have HHV := Lib.hid (show holdV n (freH F l c (j + 1)) x = -1 by
                  rw [← HNE.out]
                  unfold holdV hasB updH
                  rw [if_pos (by simp; omega), Int.toNat_natCast, if_pos rfl])
                generalize (j + c) % l.length = p at *
                clear R1 hm hfe ex
                go_wp2_with (fail)
                refine (free_is HL.out.tab who x 0 HFE.out).mono ?_
                rintro e w4 ⟨rfl, L, ho⟩
                have hL4 := HL.out.turn L ho
                simp only [if_true, Int.toNat_natCast] at hL4
                rw [HNE.out] at hL4
                have HL4 := Lib.hid hL4
                have HI4 := Lib.hid (HI.out.only ho (fun k hk => by omega))
                clear L ho hL4 HL HI c1 ep
                go_wp2_with (fail)
                refine (holder_is HL4.out.tab x (-1) HHV.out).mono ?_
                rintro e w' ⟨rfl, rfl⟩
                go_wp2_with (fail)
                go_roundw
                case rel => exact ⟨j + 1, hjl, by go_num, HL4.out, HI4.out⟩
                case measure => simp [intOf]; omega
              · obtain rfl : j = l.length := by omega
                clear HI
                go_wp2_with (fail)
                refine (held_at HL.out.tab who).mono ?_
                intro e w4 hh
                rw [HE.out c] at hh
                obtain ⟨a4, cap4, rfl, hb, _⟩ := hh.slice
                have HL4 := Lib.hid (HL.out.later hb)
                clear hh hb
                go_wp2_with (fail)
                refine (known_any w4).mono ?_
                rintro e w9 ⟨rfl, hb⟩
                have HB := Lib.hid (HL4.out.bel.trans (hb.mono HL4.out.bel.size))
                clear hb
                go_wp2_with (fail)
                go_ret
                exact ⟨rfl, HB.out⟩
  · go_enter Try.func7, Try.ntmps7
    go_wp2_with (fail)
    refine (known_any w).mono ?_
    rintro e w9 ⟨rfl, hb⟩
    have HB2 := Lib.hid hb
    clear hb
    go_wp2_with (fail)
    go_ret
    exact ⟨rfl, HB2.out⟩
end Go.Proofs.Ytepapbecnadllaa
