/-
  The walk of DepotFull: it returns true, and below the old heap nothing has turned.
-/
import Derived.Test.YtagnipkannogoaaDpKnown
namespace Go.Proofs.Ytagnipkannogoaa
open Go.RowKit Go
def zO (N : Nat) : Obs := List.replicate N (0, 0)
theorem zO_len (N : Nat) : (zO N).length = N := by simp [zO]
theorem made_objs (N : Nat) : (madeCells #[Value.int .i64 0, .int .i64 0] (N * 2)).toList = recV encO (zO N) := by
  apply List.ext_getElem?
  intro i
  by_cases hi : i < N * 2
  · rw [made_at _ _ _ hi]
    have hz : (zO N)[i / 2]? = some (0, 0) := by
      unfold zO
      rw [List.getElem?_replicate, if_pos (by omega)]
    rcases (show i = i / 2 * 2 + 0 ∨ i = i / 2 * 2 + 1 by omega) with e | e
    · have h2 := recV_at encO_len (zO N) (i / 2) _ hz 0 _ rfl
      rw [← e] at h2
      rw [h2, show i % (#[Value.int .i64 0, .int .i64 0] : Array Value).size = 0 by simp; omega]
      rfl
    · have h2 := recV_at encO_len (zO N) (i / 2) _ hz 1 _ rfl
      rw [← e] at h2
      rw [h2, show i % (#[Value.int .i64 0, .int .i64 0] : Array Value).size = 1 by simp; omega]
      rfl
  · have h1 : (madeCells #[Value.int .i64 0, .int .i64 0] (N * 2)).size = N * 2 := by simp [size_madeCells]
    rw [List.getElem?_eq_none (by rw [Array.length_toList, h1]; omega), List.getElem?_eq_none (by rw [recV_len encO_len, zO_len]; omega)]
theorem make_objs (N : Nat) (h1 : N ≤ 1000) : ∀ W, (Instr.makeSlice 30 (.int .i64 N) (.int .i64 N)).run Try.prog W = .ok (.slice (some ⟨W.heap.size, 0, none⟩) N N) (W.alloc (.cells (madeCells #[Value.int .i64 0, .int .i64 0] (N * 2)) TO)) := by
  obtain ⟨i0, hi, hz0, hz1, hz2⟩ := info_parts infoObj
  intro W
  have h := run_make (P := Try.prog) W 30 38 i0 _ Try.underlying30 hi hz0 .i64 .i64 (N : Int) (N : Int) (by omega) (by omega) (by rw [hz2]; omega) (by omega)
  rw [Int.toNat_natCast, hz1] at h
  exact h
theorem flat_len {F : List Obs} {N : Nat} (h : ∀ m ∈ F, m.length = N) : F.flatten.length = F.length * N := by
  induction F with
  | nil => simp
  | cons m r ih =>
    rw [List.flatten_cons, List.length_append, h m List.mem_cons_self, ih (fun m hm => h m (List.mem_cons_of_mem _ hm)), List.length_cons, Nat.add_mul, Nat.one_mul, Nat.add_comm]
section
variable {IsD : Thg → Nat → Nat → List Obs → Obs → Prop} {w0 w : World} {d N : Nat} {F : List Obs} {Q m : Obs} {l : List Rw}
theorem dpPut_ok (h : m.length = N) (h2 : F.length < 64) : dpPut N m F = (0, F ++ [m]) := by
  unfold dpPut
  rw [if_pos h, if_pos h2]
theorem dpPut_full (h : m.length = N) (h2 : ¬ F.length < 64) : dpPut N m F = (9, F) := by
  unfold dpPut
  rw [if_pos h, if_neg h2]
theorem dpGet_snoc : dpGet (F ++ [m]) = (true, m, F) := by
  unfold dpGet
  rw [if_neg (by simp), List.length_append, List.length_singleton, Nat.add_sub_cancel, List.take_left]
  simp
theorem dpGet_none : dpGet [] = (false, [], []) := rfl
theorem DK.madeO (h : DK IsD w0 d N F Q l w) (n : Nat) (hn : n ≤ 1000) : DK IsD w0 d N F Q (rO (.slice (some ⟨w.heap.size, 0, none⟩) n n) (zO n) :: l) (w.alloc (.cells (madeCells #[Value.int .i64 0, .int .i64 0] (n * 2)) TO)) :=
  h.fresh ((Below.refl _ _).alloc (Nat.le_refl _) _) (by
    show World.ownsRow _ 0 TO 2 _ (zO n).length (recV encO (zO n))
    rw [zO_len]
    refine ⟨by rw [recV_len encO_len, zO_len], .inr ⟨w.heap.size, n, _, rfl, Nat.zero_le _, heap_alloc_new w _, Nat.le_refl _, by unfold maxLen; omega, by simp [size_madeCells], ?_⟩⟩
    rw [made_objs, List.take_of_length_le (by rw [recV_len encO_len, zO_len]; exact Nat.le_refl _)]) (fun k hk => by simp [rO, Value.ownBlock] at hk; omega)
end
set_option maxRecDepth 100000 in
set_option maxHeartbeats 8000000 in
theorem lawDFull_any {IsD : Thg → Nat → Nat → List Obs → Obs → Prop} (ok : DepOk IsD) (nn : Int) (w : World) : Calls Try.prog 7 #[.int .i64 nn] w fun e w' => e = .returned (.bool true) ∧ Below w.heap.size w w' := by
  go_enter Try.func7, Try.ntmps7
  go_wp2_with (fail)
  refine (new_dk ok nn w).mono ?_
  rintro e w1 ⟨d, rfl, hD⟩
  have HD := Lib.hid hD
  have h32 := clN_pos nn
  clear hD
  generalize clN nn = N at *
  go_wp2_with (fail)
  refine (rounds_dk ok HD.out).mono ?_
  rintro e w2 ⟨rfl, hD⟩
  have HD2 := Lib.hid (hD.madeO N (by omega))
  have hmk := make_objs N (by omega)
  clear hD HD
  go_wp2_with (fail)
  clear hmk
  generalize w2.alloc (.cells (madeCells #[Value.int .i64 0, .int .i64 0] (N * 2)) 38) = w3 at *
  generalize w2.heap.size = X at *
  go_loopw [12] (fun i wr => ∃ k : Nat, k ≤ 64 ∧ i = .int .i64 k ∧ Hid (DK IsD w d N (List.replicate k (zO N)) [] [rO (.slice (some ⟨X, 0, none⟩) N N) (zO N)] wr)) (fun i _ => 64 - (intOf i).toNat)
  case atStart => exact ⟨0, by omega, rfl, HD2⟩
  case round =>
    clear HD2
    obtain ⟨k, hk, rfl, HD⟩ := hrel
    by_cases hlt : k < 64
    · have hltI : (k : Int) < 64 := by omega
      have HK := Lib.hid hlt
      have HPT := Lib.hid (dpPut_ok (N := N) (m := zO N) (F := List.replicate k (zO N)) (zO_len N) (by simpa using hlt))
      clear hlt
      go_wp2_with (fail)
      refine (put_dk ok HD.out HD.out.srcO).mono ?_
      rintro e w4 ⟨rfl, hD⟩
      rw [HPT.out] at hD ⊢
      have HD4 := Lib.hid (show DK IsD w d N (List.replicate (k + 1) (zO N)) [] _ w4 by rw [List.replicate_succ']; exact hD)
      clear hD HPT HD
      go_wp2_with (fail)
      go_roundw
      case rel => exact ⟨k + 1, HK.out, by go_num, HD4⟩
      case measure => have := HK.out; simp [intOf]; omega
    · obtain rfl : k = 64 := by omega
      rw [show ((64 : Nat) : Int) = 64 from rfl]
      clear hlt hk
      obtain ⟨F, hF⟩ : ∃ F, List.replicate 63 (zO N) = F := ⟨_, rfl⟩
      have HFL := Lib.hid (show F.length = 63 ∧ ∀ m ∈ F, m.length = N by
        rw [← hF]
        refine ⟨by simp, fun m hm => ?_⟩
        rw [(List.mem_replicate.1 hm).2]
        exact zO_len N)
      rw [show List.replicate 64 (zO N) = List.replicate 63 (zO N) ++ [zO N] from List.replicate_succ', hF] at HD
      clear hF
      have hput9 := dpPut_full (N := N) (m := zO N) (F := F ++ [zO N]) (zO_len N) (by rw [List.length_append, HFL.out.1, List.length_singleton]; decide)
      have hput0 := dpPut_ok (N := N) (m := zO N) (F := F) (zO_len N) (by rw [HFL.out.1]; decide)
      have HP9 := Lib.hid hput9
      have HP0 := Lib.hid hput0
      have HAL := Lib.hid (show (dpAll (F ++ [zO N]) []).length = 64 * N by
        unfold dpAll
        rw [List.append_nil, flat_len (N := N) (fun m hm => by
          rcases List.mem_append.1 hm with h | h
          · exact HFL.out.2 m h
          · rw [List.mem_singleton.1 h]; exact zO_len N), List.length_append, HFL.out.1]
        rfl)
      clear hput9 hput0
      go_wp2_with (fail)
      refine (put_dk ok HD.out HD.out.srcO).mono ?_
      rintro e w4 ⟨rfl, hD⟩
      rw [HP9.out] at hD ⊢
      have HD4 := Lib.hid hD
      clear hD HD
      go_wp2_with (fail)
      refine (fulls_dk ok HD4.out).mono ?_
      rintro e w5 ⟨rfl, hD⟩
      rw [show (F ++ [zO N]).length = 64 by rw [List.length_append, HFL.out.1]; rfl, show ((64 : Nat) : Int) = 64 from rfl]
      have HD5 := Lib.hid hD
      clear hD HD4
      go_wp2_with (fail)
      refine (get_dk ok HD5.out).mono ?_
      rintro e w6 ⟨v6, rfl, hD⟩
      rw [dpGet_snoc] at hD ⊢
      obtain ⟨a6, c6, e6⟩ := hD.lenO
      subst e6
      have HD6 := Lib.hid hD.drop
      clear hD HD5
      rw [zO_len]
      go_wp2_with (fail)
      refine (rounds_dk ok HD6.out).mono ?_
      rintro e w7 ⟨rfl, hD⟩
      have HD7 := Lib.hid hD
      clear hD HD6
      go_wp2_with (fail)
      refine (put_dk ok HD7.out HD7.out.srcO).mono ?_
      rintro e w8 ⟨rfl, hD⟩
      rw [HP0.out] at hD ⊢
      have HD8 := Lib.hid hD
      clear hD HD7
      go_wp2_with (fail)
      refine (put_dk ok HD8.out HD8.out.srcO).mono ?_
      rintro e w9 ⟨rfl, hD⟩
      rw [HP9.out] at hD ⊢
      have HD9 := Lib.hid hD
      clear hD HD8
      go_wp2_with (fail)
      refine (all_dk ok HD9.out (by decide)).mono ?_
      rintro e wa ⟨va, rfl, hD⟩
      obtain ⟨aa, ca, ea⟩ := hD.lenO
      subst ea
      have HDA := Lib.hid hD.drop
      rw [HAL.out]
      clear hD HD9
      go_wp2_with (fail)
      refine (rounds_dk ok HDA.out).mono ?_
      rintro e wb ⟨rfl, hD⟩
      have HDB := Lib.hid hD
      clear hD HDA
      go_wp2_with (fail)
      refine (known_any ok _).mono ?_
      rintro e wc ⟨rfl, hb⟩
      have HF := Lib.hid (HDB.out.bel.trans (hb.mono HDB.out.le))
      clear hb
      go_wp2_with (fail)
      go_ret
      exact ⟨rfl, HF.out⟩
end Go.Proofs.Ytagnipkannogoaa
