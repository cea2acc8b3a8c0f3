/-
  The walk of DepotTurns: it returns true, and below the old heap nothing has turned.
-/
import Derived.Test.YtagnipkannogoaaDpLawFull
namespace Go.Proofs.Ytagnipkannogoaa
open Go.RowKit Go
/-- The i-th magazine. -/
def mgO (N i : Nat) : Obs := (List.range N).map fun (k : Nat) => ((i : Int), (k : Int))
def mgF (N n : Nat) : List Obs := (List.range n).map (mgO N)
theorem mgO_len (N i : Nat) : (mgO N i).length = N := by simp [mgO]
theorem mgF_len (N n : Nat) : (mgF N n).length = n := by simp [mgF]
theorem mgF_succ (N n : Nat) : mgF N (n + 1) = mgF N n ++ [mgO N n] := by
  unfold mgF
  rw [List.range_succ, List.map_append]
  rfl
/-- A magazine so far. -/
def mgP (i k : Nat) : Obs := (List.range k).map fun (k : Nat) => ((i : Int), (k : Int))
theorem mgP_succ (i k : Nat) : mgP i (k + 1) = mgP i k ++ [((i : Int), (k : Int))] := by
  unfold mgP
  rw [List.range_succ, List.map_append]
  rfl
theorem mgP_len (i k : Nat) : (mgP i k).length = k := by simp [mgP]
theorem mg_first {N i : Nat} (h : 1 ≤ N) : (mgO N i)[0]? = some ((i : Int), 0) := by
  unfold mgO
  rw [List.getElem?_map, List.getElem?_range (by omega)]
  rfl
theorem u64_modD (x n : Int) (h1 : 1 ≤ n) (h2 : n ≤ 1024) : ∃ k : Nat, (k : Int) < n ∧ wrap64 ((IntKind.u64.wrap x).tmod n) = k := by
  have h0 : 0 ≤ IntKind.u64.wrap x := by rw [IntKind.wrap_u64]; omega
  have e1 : (IntKind.u64.wrap x).tmod n = (IntKind.u64.wrap x) % n := Int.tmod_eq_emod_of_nonneg h0
  have l1 := Int.emod_lt_of_pos (IntKind.u64.wrap x) (show 0 < n by omega)
  have l2 := Int.emod_nonneg (IntKind.u64.wrap x) (show n ≠ 0 by omega)
  refine ⟨((IntKind.u64.wrap x) % n).toNat, by omega, ?_⟩
  rw [e1, IntWalk.wrap64_in _ ⟨by omega, by omega⟩]; omega
theorem dpK_nat {Q : Obs} {k : Nat} (h : k ≤ Q.length) : dpK (k : Int) Q = k := by unfold dpK; omega
theorem dpK_all {Q : Obs} {n : Int} (h : (Q.length : Int) ≤ n) : dpK n Q = Q.length := by unfold dpK; omega
theorem SrcO.take {w : World} {a : Option Addr} {len c : Nat} {A : Obs} (h : SrcO w (.slice a len c) A) {k : Nat} (hk : k ≤ A.length) : SrcO w (.slice a k c) (A.take k) := by
  obtain ⟨a2, c2, e, hh⟩ := h
  injection e with e1 e2 e3
  subst e1
  subst e3
  refine ⟨a, c, by rw [List.length_take, Nat.min_eq_left hk], fun hp => ?_⟩
  rw [List.length_take] at hp
  obtain ⟨ad, e4, h4⟩ := hh (by omega)
  refine ⟨ad, e4, fun j u hj => h4 j u ?_⟩
  rw [← recV_take encO_len] at hj
  have hlt := (List.getElem?_eq_some_iff.1 hj).1
  rw [List.length_take] at hlt
  rw [List.getElem?_take_of_lt (by omega)] at hj
  exact hj
theorem SrcO.drop {w : World} {a : Option Addr} {len c : Nat} {A : Obs} (h : SrcO w (.slice a len c) A) {k : Nat} (hk : k ≤ A.length) (hc : A.length ≤ c) : SrcO w (.slice (if c = k then a else a.map fun x => x.add (k * 2)) (A.length - k) (c - k)) (A.drop k) := by
  obtain ⟨a2, c2, e, hh⟩ := h
  injection e with e1 e2 e3
  subst e1
  subst e3
  refine ⟨_, _, by rw [List.length_drop], fun hp => ?_⟩
  rw [List.length_drop] at hp
  obtain ⟨ad, e4, h4⟩ := hh (by omega)
  subst e4
  rw [if_neg (by omega)]
  refine ⟨ad.add (k * 2), rfl, fun j u hj => ?_⟩
  rw [← recV_drop encO_len, List.getElem?_drop] at hj
  have h5 := h4 _ u hj
  obtain ⟨b, o, sp⟩ := ad
  have hz : sp = none := by
    have h6 := World.cell?_spot (h4 0 (.int .i64 A[0].1) (by
      have := recV_at encO_len A 0 A[0] (List.getElem?_eq_getElem (by omega)) 0 _ rfl
      simpa using this))
    simpa [Addr.add] using h6
  subst hz
  rw [Addr.add_lit, Addr.add_lit, Nat.add_assoc]
  rw [Addr.add_lit] at h5
  exact h5
set_option maxRecDepth 100000 in
set_option maxHeartbeats 8000000 in
theorem lawDTurns_any {IsD : Thg → Nat → Nat → List Obs → Obs → Prop} (ok : DepOk IsD) (nn n : Int) (a : Option Addr) (cap : Nat) (A : Obs) (some_ : Int) (w : World) (hs : SrcO w (.slice a A.length cap) A) (hcap : A.length ≤ cap) :
    Calls Try.prog 6 #[.int .i64 nn, .int .i64 n, .slice a A.length cap, .int .i64 some_] w fun e w' => e = .returned (.bool true) ∧ Below w.heap.size w w' := by
  have HS := Lib.hid hs
  have HCAP := Lib.hid hcap
  clear hs hcap
  by_cases hin : 0 ≤ n ∧ n ≤ 20 ∧ A.length ≤ 60
  · obtain ⟨m, rfl⟩ : ∃ m : Nat, n = m := ⟨n.toNat, by omega⟩
    have hm20 : m ≤ 20 := by omega
    have hA60 : A.length ≤ 60 := hin.2.2
    have h1 : ¬ ((m : Int) < 0) := by omega
    have h2 : ¬ (20 < (m : Int)) := by omega
    have h3 : ¬ (60 < (A.length : Int)) := by omega
    clear hin
    have HQ := Lib.hid (show ∀ j, (A.take j).length ≤ 10000 from fun j => by rw [List.length_take]; omega)
    go_enter Try.func6, Try.ntmps6
    go_wp2_with (fail)
    refine (new_dk ok nn w).mono ?_
    rintro e w1 ⟨d, rfl, hD⟩
    have HD := Lib.hid hD
    have h32 := clN_pos nn
    clear hD h1 h2 h3
    generalize clN nn = N at *
    go_wp2_with (fail)
    go_loopw [33] (fun i wr => ∃ k : Nat, k ≤ m ∧ i = .int .i64 k ∧ Hid (DK IsD w d N (mgF N k) (A.take k) [] wr)) (fun i _ => m - (intOf i).toNat)
    case atStart => exact ⟨0, Nat.zero_le _, rfl, by rw [List.take_zero]; exact HD⟩
    case round =>
      clear HD
      obtain ⟨k, hk, rfl, HD⟩ := hrel
      by_cases hlt : k < m
      · have hltI : (k : Int) < (m : Int) := by omega
        have HLT := Lib.hid hlt
        go_wp2_with (fail)
        refine (rounds_dk ok HD.out).mono ?_
        rintro e w2 ⟨rfl, hD⟩
        have HD2 := Lib.hid hD.nilO
        clear hD HD
        go_wp2_with (fail)
        go_loopw [11, 38] (fun v i wz => ∃ (c : Nat) (u : Value), c ≤ N ∧ v = u ∧ i = .int .i64 c ∧ Hid (DK IsD w d N (mgF N k) (A.take k) [rO u (mgP k c)] wz)) (fun _ i _ => N - (intOf i).toNat)
        case atStart => exact ⟨0, _, Nat.zero_le _, rfl, rfl, HD2⟩
        case round =>
          clear HD2
          obtain ⟨c, vm, hc, hv9, rfl, HD⟩ := hrel
          have hv9 := hv9.symm
          subst hv9
          by_cases hcl : c < N
          · have hcI : (c : Int) < (N : Int) := by omega
            have HC := Lib.hid hcl
            have HL := Lib.hid (show (mgP k c).length ≤ 100000 by rw [mgP_len]; omega)
            clear hcl hc hlt
            go_wp2_with (first
              | (at_builtin; refine wpList_dkO rfl _ _ rfl HD.out HL.out (k : Int) (c : Int) rfl rfl ?_
                 intro v3 w3 hD3
                 have HD3 := Lib.hid hD3
                 clear hD3 HD)
              | fail)
            rw [← mgP_succ] at HD3
            go_roundw
            case rel => exact ⟨c + 1, _, HC.out, rfl, by go_num, HD3⟩
            case measure => have := HC.out; simp [intOf]; omega
          · obtain rfl : c = N := by omega
            have HPT := Lib.hid (dpPut_ok (N := c) (m := mgO c k) (F := mgF c k) (mgO_len c k) (by rw [mgF_len]; omega))
            have HD' := Lib.hid (show DK IsD w d c (mgF c k) (A.take k) [rO vm (mgO c k)] wr from HD.out)
            clear hcl hc HD
            go_wp2_with (fail)
            refine (put_dk ok HD'.out HD'.out.srcO).mono ?_
            rintro e w3 ⟨rfl, hD⟩
            rw [HPT.out] at hD ⊢
            have HD3 := Lib.hid (show DK IsD w d c (mgF c (k + 1)) (A.take k) [] w3 by rw [mgF_succ]; exact hD.drop)
            clear hD HD' HPT
            by_cases hkA : k < A.length
            · have hkI : (k : Int) < (A.length : Int) := by omega
              obtain ⟨b, o, c9, e9, c0, c1⟩ := (HS.out.later HD3.out.bel).get hkA
              injection e9 with e9 _ e8
              subst e9
              subst e8
              have HTK := Lib.hid (takeN_next hkA)
              generalize A[k] = q at *
              obtain ⟨x, y⟩ := q
              dsimp only at c0 c1 HTK
              clear hkA hlt
              go_wp2_with (fail)
              refine (queue_dk ok HD3.out x y (HQ.out k)).mono ?_
              rintro e w4 ⟨rfl, hD⟩
              rw [← HTK.out] at hD
              have HD4 := Lib.hid hD
              clear hD HD3 c0 c1
              go_wp2_with (fail)
              go_roundw
              case rel => exact ⟨k + 1, HLT.out, by go_num, HD4⟩
              case measure => have := HLT.out; simp [intOf]; omega
            · have hkI : ¬ ((k : Int) < (A.length : Int)) := by omega
              have HD4 := Lib.hid (show DK IsD w d c (mgF c (k + 1)) (A.take (k + 1)) [] w3 by
                have e1 : A.take (k + 1) = A.take k := by rw [List.take_of_length_le (by omega), List.take_of_length_le (by omega)]
                rw [e1]
                exact HD3.out)
              clear hkA hlt HD3
              go_wp2_with (fail)
              go_roundw
              case rel => exact ⟨k + 1, HLT.out, by go_num, HD4⟩
              case measure => have := HLT.out; simp [intOf]; omega
      · obtain rfl : k = m := by omega
        clear hlt hk
        go_wp2_with (fail)
        go_loopw [13] (fun i wr => ∃ j : Nat, (j ≤ A.length ∨ j = k) ∧ i = .int .i64 j ∧ Hid (DK IsD w d N (mgF N k) (A.take j) [] wr)) (fun i _ => A.length - (intOf i).toNat)
        case atStart => exact ⟨k, .inr rfl, rfl, HD⟩
        case round =>
          clear HD
          obtain ⟨j, hj, rfl, HD⟩ := hrel
          by_cases hjA : j < A.length
          · have hjI : (j : Int) < (A.length : Int) := by omega
            obtain ⟨b, o, c9, e9, c0, c1⟩ := (HS.out.later HD.out.bel).get hjA
            injection e9 with e9 _ e8
            subst e9
            subst e8
            have HTK := Lib.hid (takeN_next hjA)
            have HJ := Lib.hid hjA
            generalize A[j] = q at *
            obtain ⟨x, y⟩ := q
            dsimp only at c0 c1 HTK
            clear hjA hj
            go_wp2_with (fail)
            refine (queue_dk ok HD.out x y (HQ.out j)).mono ?_
            rintro e w4 ⟨rfl, hD⟩
            rw [← HTK.out] at hD
            have HD4 := Lib.hid hD
            clear hD HD c0 c1
            go_wp2_with (fail)
            go_roundw
            case rel => exact ⟨j + 1, .inl HJ.out, by go_num, HD4⟩
            case measure => have := HJ.out; simp [intOf]; omega
          · have hjI : ¬ ((j : Int) < (A.length : Int)) := by omega
            have HDA := Lib.hid (show DK IsD w d N (mgF N k) A [] wr by
              have h := HD.out
              rw [List.take_of_length_le (by omega)] at h
              exact h)
            clear hjA hj HD HQ
            have hj21 : j ≤ 1000 ∨ 1000 < j := by omega
            clear hj21
            go_wp2_with (fail)
            obtain ⟨kk, hk1, hk2⟩ := u64_modD some_ ((A.length : Int) + 1) (by omega) (by omega)
            rw [hk2]
            have hkA : kk ≤ A.length := by omega
            have HKA := Lib.hid hkA
            have S1 := Lib.hid (show ∀ V : World, Hid True → (Instr.sliceAt 30 (.slice a A.length cap) none (some (.int .i64 kk)) none).run Try.prog V = .ok (.slice a kk cap) V from fun V _ => run_sub_toN (P := Try.prog) (t := 30) (e := TO) (s := 2) Try.underlying30 (fun _ => by kernel_rfl) _ _ _ kk (Nat.le_trans hkA HCAP.out) V)
            clear hk1 hk2 hkA
            refine wp_region_lex1 (fun _ => Hid True) [(0, false), (1, false), (3, false), (4, false), (5, false), (2, true), (6, true), (7, false)] (by kernel_rfl) (by kernel_rfl) rfl (by kernel_rfl) (Lib.hid trivial) ?_
            intro W0 hW0 hK0
            have HDb := Lib.hid (show DK IsD w d N (mgF N k) A [] W0 by rw [hW0]; exact HDA.out.later (Below.refl _ _).drew)
            clear hW0 hK0 HDA
            refine lexH_yieldE rfl rfl ?_
            apply Exists.intro
            refine ⟨fun W hW => ?_, ?_⟩
            focus (go_simp; exact rfl)
            simp only [List.getElem_toArray, List.getElem_cons_zero, Act.put, List.setIfInBounds_toArray, List.set_cons_zero, List.set_cons_succ]
            refine lexH_yieldE rfl rfl ?_
            apply Exists.intro
            refine ⟨fun W hW => ?_, ?_⟩
            focus (go_simp; exact rfl)
            simp only [List.getElem_toArray, List.getElem_cons_succ, List.getElem_cons_zero, Act.put, List.setIfInBounds_toArray, List.set_cons_zero, List.set_cons_succ]
            refine lexH_yieldE rfl rfl ?_
            apply Exists.intro
            refine ⟨fun W hW => ?_, ?_⟩
            focus (go_simp; exact rfl)
            simp only [List.getElem_toArray, List.getElem_cons_succ, List.getElem_cons_zero, Act.put, List.setIfInBounds_toArray, List.set_cons_zero, List.set_cons_succ]
            refine lexH_yieldE rfl rfl ?_
            apply Exists.intro
            refine ⟨fun W hW => ?_, ?_⟩
            focus (go_simp; exact rfl)
            simp only [List.getElem_toArray, List.getElem_cons_succ, List.getElem_cons_zero, Act.put, List.setIfInBounds_toArray, List.set_cons_zero, List.set_cons_succ]
            refine lexH_slice rfl rfl _ _ _ _ _ rfl S1.out ?_
            simp only [List.getElem_toArray, List.getElem_cons_succ, List.getElem_cons_zero, Act.put, List.setIfInBounds_toArray, List.set_cons_zero, List.set_cons_succ]
            refine lexH_call 17 #[.pointer (some ⟨d, 0, none⟩), .int .i64 kk] rfl rfl ?_ ?_
            focus (go_simp; done)
            refine (drain_dk ok HDb.out (kk : Int) (by omega)).mono ?_
            rintro e x1 ⟨v1, rfl, hx1⟩
            rw [dpK_nat HKA.out] at hx1
            have HX1 := Lib.hid hx1
            refine ⟨_, rfl, Lib.hid trivial, ?_⟩
            clear hx1 HDb
            simp only [List.getElem_toArray, List.getElem_cons_succ, List.getElem_cons_zero, Act.put, List.setIfInBounds_toArray, List.set_cons_zero, List.set_cons_succ]
            refine lexH_call 22 #[v1, .slice a kk cap] rfl rfl ?_ ?_
            focus (go_simp; done)
            refine (same_any HX1.out.srcO ((HS.out.later HX1.out.bel).take HKA.out) (by rw [List.length_take]; omega)).mono ?_
            rintro e x2 ⟨rfl, hb⟩
            have HX2 := Lib.hid (HX1.out.later hb).drop
            refine ⟨_, rfl, Lib.hid trivial, ?_⟩
            clear hb HX1 S1
            simp only [List.getElem_toArray, List.getElem_cons_succ, List.getElem_cons_zero, Act.put, List.setIfInBounds_toArray, List.set_cons_zero, List.set_cons_succ]
            refine lexH_yieldE rfl rfl ?_
            apply Exists.intro
            refine ⟨fun W hW => ?_, ?_⟩
            focus (go_simp; exact rfl)
            simp only [List.getElem_toArray, List.getElem_cons_succ, List.getElem_cons_zero, Act.put, List.setIfInBounds_toArray, List.set_cons_zero, List.set_cons_succ]
            refine lexH_nil ?_
            go_wp2_with (fail)
            go_loopw [15] (fun i wr => ∃ j : Nat, j ≤ k ∧ i = .int .i64 ((j : Int) - 1) ∧ Hid (DK IsD w d N (mgF N j) (A.drop kk) [] wr)) (fun i _ => ((intOf i) + 1).toNat)
            case atStart => exact ⟨k, Nat.le_refl _, rfl, HX2⟩
            case round =>
              clear HX2
              obtain ⟨j2, hj2, rfl, HD⟩ := hrel
              cases j2 with
              | zero =>
                rw [show ((0 : Nat) : Int) - 1 = -1 from rfl]
                have HD0 := Lib.hid (show DK IsD w d N [] (A.drop kk) [] wr from HD.out)
                have S2 := Lib.hid (show ∀ V : World, Hid True → (Instr.sliceAt 30 (.slice a A.length cap) (some (.int .i64 kk)) none none).run Try.prog V = .ok (.slice (if cap = kk then a else a.map fun x => x.add (kk * 2)) (A.length - kk) (cap - kk)) V from fun V _ => run_sub_fromN (P := Try.prog) (t := 30) (e := TO) (s := 2) Try.underlying30 (fun _ => by kernel_rfl) _ _ _ kk HKA.out V)
                have HSD := Lib.hid (show ∀ V, Below w.heap.size w V → SrcO V (.slice (if cap = kk then a else a.map fun x => x.add (kk * 2)) (A.length - kk) (cap - kk)) (A.drop kk) from fun V hV => (HS.out.later hV).drop HKA.out HCAP.out)
                clear HD
                generalize Value.slice (if cap = kk then a else a.map fun x => x.add (kk * 2)) (A.length - kk) (cap - kk) = vd at *
                go_wp2_with (fail)
                refine wp_region_lex1 (fun _ => Hid True) [(0, false), (2, false), (3, false), (4, false), (1, true), (5, true), (6, false), (7, false), (8, true), (9, false), (10, false), (11, false), (12, true), (13, false), (14, false)] (by kernel_rfl) (by kernel_rfl) rfl (by kernel_rfl) (Lib.hid trivial) ?_
                intro W0 hW0 hK0
                have HDb := Lib.hid (show DK IsD w d N [] (A.drop kk) [] W0 by rw [hW0]; exact HD0.out.later (Below.refl _ _).drew)
                clear hW0 hK0 HD0
                refine lexH_yieldE rfl rfl ?_
                apply Exists.intro
                refine ⟨fun W hW => ?_, ?_⟩
                focus (go_simp; exact rfl)
                simp only [List.getElem_toArray, List.getElem_cons_zero, Act.put, List.setIfInBounds_toArray, List.set_cons_zero, List.set_cons_succ]
                refine lexH_yieldE rfl rfl ?_
                apply Exists.intro
                refine ⟨fun W hW => ?_, ?_⟩
                focus (go_simp; exact rfl)
                simp only [List.getElem_toArray, List.getElem_cons_succ, List.getElem_cons_zero, Act.put, List.setIfInBounds_toArray, List.set_cons_zero, List.set_cons_succ]
                refine lexH_yieldE rfl rfl ?_
                apply Exists.intro
                refine ⟨fun W hW => ?_, ?_⟩
                focus (go_simp; exact rfl)
                simp only [List.getElem_toArray, List.getElem_cons_succ, List.getElem_cons_zero, Act.put, List.setIfInBounds_toArray, List.set_cons_zero, List.set_cons_succ]
                refine lexH_slice rfl rfl _ _ _ _ _ rfl S2.out ?_
                simp only [List.getElem_toArray, List.getElem_cons_succ, List.getElem_cons_zero, Act.put, List.setIfInBounds_toArray, List.set_cons_zero, List.set_cons_succ]
                refine lexH_call 17 #[.pointer (some ⟨d, 0, none⟩), .int .i64 1000] rfl rfl ?_ ?_
                focus (go_simp; done)
                refine (drain_dk ok HDb.out 1000 (by rw [List.length_drop]; omega)).mono ?_
                rintro e x1 ⟨v1, rfl, hx1⟩
                rw [dpK_all (by rw [List.length_drop]; omega), List.take_length, List.drop_length] at hx1
                have HX1 := Lib.hid hx1
                refine ⟨_, rfl, Lib.hid trivial, ?_⟩
                clear hx1 HDb
                simp only [List.getElem_toArray, List.getElem_cons_succ, List.getElem_cons_zero, Act.put, List.setIfInBounds_toArray, List.set_cons_zero, List.set_cons_succ]
                refine lexH_call 22 #[v1, vd] rfl rfl ?_ ?_
                focus (go_simp; done)
                refine (same_any HX1.out.srcO (HSD.out _ HX1.out.bel) (by rw [List.length_drop]; omega)).mono ?_
                rintro e x2 ⟨rfl, hb⟩
                have HX2 := Lib.hid (HX1.out.later hb)
                refine ⟨_, rfl, Lib.hid trivial, ?_⟩
                clear hb HX1 S2
                simp only [List.getElem_toArray, List.getElem_cons_succ, List.getElem_cons_zero, Act.put, List.setIfInBounds_toArray, List.set_cons_zero, List.set_cons_succ]
                refine lexH_yieldE rfl rfl ?_
                apply Exists.intro
                refine ⟨fun W hW => ?_, ?_⟩
                focus (go_simp; exact rfl)
                simp only [List.getElem_toArray, List.getElem_cons_succ, List.getElem_cons_zero, Act.put, List.setIfInBounds_toArray, List.set_cons_zero, List.set_cons_succ]
                refine lexH_yieldE rfl rfl ?_
                apply Exists.intro
                refine ⟨fun W hW => ?_, ?_⟩
                focus (go_simp; exact rfl)
                simp only [List.getElem_toArray, List.getElem_cons_succ, List.getElem_cons_zero, Act.put, List.setIfInBounds_toArray, List.set_cons_zero, List.set_cons_succ]
                refine lexH_call 24 #[.pointer (some ⟨d, 0, none⟩)] rfl rfl ?_ ?_
                focus (go_simp; done)
                refine (queued_dk ok HX2.out).mono ?_
                rintro e x3 ⟨rfl, hx3⟩
                have HX3 := Lib.hid hx3
                refine ⟨_, rfl, Lib.hid trivial, ?_⟩
                clear hx3 HX2
                rw [show (([] : Obs).length : Int) = 0 from rfl]
                simp only [List.getElem_toArray, List.getElem_cons_succ, List.getElem_cons_zero, Act.put, List.setIfInBounds_toArray, List.set_cons_zero, List.set_cons_succ]
                refine lexH_yieldE rfl rfl ?_
                apply Exists.intro
                refine ⟨fun W hW => ?_, ?_⟩
                focus (go_simp; exact rfl)
                simp only [List.getElem_toArray, List.getElem_cons_succ, List.getElem_cons_zero, Act.put, List.setIfInBounds_toArray, List.set_cons_zero, List.set_cons_succ]
                refine lexH_yieldE rfl rfl ?_
                apply Exists.intro
                refine ⟨fun W hW => ?_, ?_⟩
                focus (go_simp; exact rfl)
                simp only [List.getElem_toArray, List.getElem_cons_succ, List.getElem_cons_zero, Act.put, List.setIfInBounds_toArray, List.set_cons_zero, List.set_cons_succ]
                refine lexH_yieldE rfl rfl ?_
                apply Exists.intro
                refine ⟨fun W hW => ?_, ?_⟩
                focus (go_simp; exact rfl)
                simp only [List.getElem_toArray, List.getElem_cons_succ, List.getElem_cons_zero, Act.put, List.setIfInBounds_toArray, List.set_cons_zero, List.set_cons_succ]
                refine lexH_call 8 #[] rfl rfl ?_ ?_
                focus (go_simp; done)
                refine (known_any ok _).mono ?_
                rintro e x4 ⟨rfl, hb⟩
                have HF := Lib.hid (HX3.out.bel.trans (hb.mono HX3.out.le))
                refine ⟨_, rfl, Lib.hid trivial, ?_⟩
                clear hb HX3
                simp only [List.getElem_toArray, List.getElem_cons_succ, List.getElem_cons_zero, Act.put, List.setIfInBounds_toArray, List.set_cons_zero, List.set_cons_succ]
                refine lexH_yieldE rfl rfl ?_
                apply Exists.intro
                refine ⟨fun W hW => ?_, ?_⟩
                focus (go_simp; exact rfl)
                simp only [List.getElem_toArray, List.getElem_cons_succ, List.getElem_cons_zero, Act.put, List.setIfInBounds_toArray, List.set_cons_zero, List.set_cons_succ]
                refine lexH_yieldE rfl rfl ?_
                apply Exists.intro
                refine ⟨fun W hW => ?_, ?_⟩
                focus (go_simp; exact rfl)
                simp only [List.getElem_toArray, List.getElem_cons_succ, List.getElem_cons_zero, Act.put, List.setIfInBounds_toArray, List.set_cons_zero, List.set_cons_succ]
                refine lexH_nil ?_
                go_wp2_with (fail)
                go_ret
                exact ⟨rfl, HF.out⟩
              | succ j2 =>
                have e0 : ((j2 + 1 : Nat) : Int) - 1 = (j2 : Int) := by omega
                rw [e0]
                rw [mgF_succ] at HD
                have HJ := Lib.hid hj2
                have hj20 : j2 ≤ 1000 := by omega
                clear e0 hj2
                go_wp2_with (fail)
                refine (get_dk ok HD.out).mono ?_
                rintro e x1 ⟨v1, rfl, hx1⟩
                rw [dpGet_snoc] at hx1 ⊢
                obtain ⟨a1, c1, e1⟩ := hx1.lenO
                rw [mgO_len] at e1
                subst e1
                have HX1 := Lib.hid hx1
                clear hx1 HD
                go_wp2_with (fail)
                refine (rounds_dk ok HX1.out).mono ?_
                rintro e x2 ⟨rfl, hx2⟩
                obtain ⟨g, gc, eg, d0, d1⟩ := hx2.atO (k := 0) (by rw [mgO_len]; omega)
                rw [mgO_len] at eg
                injection eg with eg _ eg2
                subst eg
                subst eg2
                have hq : (mgO N j2)[0]'(by rw [mgO_len]; omega) = ((j2 : Int), 0) := by
                  have h := mg_first (N := N) (i := j2) (by omega)
                  rw [List.getElem?_eq_getElem (by rw [mgO_len]; omega)] at h
                  injection h
                rw [hq] at d0 d1
                have HX2 := Lib.hid hx2.drop
                have hN0 : 0 < N := by omega
                clear hx2 HX1 hq
                go_wp2_with (fail)
                go_roundw
                case rel => exact ⟨j2, by have := HJ.out; omega, rfl, HX2⟩
                case measure => first | (simp [intOf]; done) | (simp [intOf]; omega)
  · go_enter Try.func6, Try.ntmps6
    have HIN := Lib.hid hin
    by_cases h1 : n < 0
    · clear hin
      go_wp2_with (fail)
      refine (known_any ok _).mono ?_
      rintro e w5 ⟨rfl, hb⟩
      have HB := Lib.hid hb
      clear hb
      go_wp2_with (fail)
      go_ret
      exact ⟨rfl, HB.out⟩
    · by_cases h2 : 20 < n
      · clear hin
        go_wp2_with (fail)
        refine (known_any ok _).mono ?_
        rintro e w5 ⟨rfl, hb⟩
        have HB := Lib.hid hb
        clear hb
        go_wp2_with (fail)
        go_ret
        exact ⟨rfl, HB.out⟩
      · have h3 : 60 < (A.length : Int) := by omega
        clear hin
        go_wp2_with (fail)
        refine (known_any ok _).mono ?_
        rintro e w5 ⟨rfl, hb⟩
        have HB := Lib.hid hb
        clear hb
        go_wp2_with (fail)
        go_ret
        exact ⟨rfl, HB.out⟩
end Go.Proofs.Ytagnipkannogoaa
