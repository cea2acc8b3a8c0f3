/-
  The walk of DepotKeeps: it returns true, and below the old heap nothing has turned.
-/
import Derived.Test.YtagnipkannogoaaDpKd
import Derived.Test.YtagnipkannogoaaDpOps
import Derived.Deep.DeepCutAuto
import Derived.Deep.CutBlock
namespace Go.Proofs.Ytagnipkannogoaa
open Go.RowKit Go
/-- The law's rows: the numbers, how many, the numbers' variable. -/
def kR (v : Value) (J : List Int) (xt xs : Nat) (T : Int) (vs : Value) (l : List Rw) : List Rw := rI v J :: rC xt 3 [.int .i64 T] :: rC xs 46 [vs] :: l
section
variable {IsD : Thg → Nat → Nat → List Obs → Obs → Prop} {w0 w w' : World} {d N n xt xs : Nat} {F : List Obs} {Q A : Obs} {l : List Rw} {v vs vm : Value} {J Y : List Int} {T : Int}
theorem DK.kt (h : DK IsD w0 d N F Q (kR v J xt xs T vs l) w) : w.cell? ⟨xt, 0, none⟩ = some (.int .i64 T) ∧ w.frozen? ⟨xt, 0, none⟩ = false := rC_cell (h.choose_spec.2.row (rC xt 3 [.int .i64 T]) (by simp [kR])) (j := 0) rfl
theorem DK.ks (h : DK IsD w0 d N F Q (kR v J xt xs T vs l) w) : w.cell? ⟨xs, 0, none⟩ = some vs ∧ w.frozen? ⟨xs, 0, none⟩ = false := rC_cell (h.choose_spec.2.row (rC xs 46 [vs]) (by simp [kR])) (j := 0) rfl
theorem DK.putT (h : DK IsD w0 d N F Q (kR v J xt xs T vs l) w) (T' : Int) : DK IsD w0 d N F Q (kR v J xt xs T' vs l) (w.setCell ⟨xt, 0, none⟩ (.int .i64 T')) := by
  obtain ⟨X, hX, h⟩ := h
  exact ⟨X, hX, (FK.put h.swap 0 (.int .i64 T')).swap⟩
theorem DK.putS (h : DK IsD w0 d N F Q (kR v J xt xs T vs l) w) (u : Value) : DK IsD w0 d N F Q (kR v J xt xs T u l) (w.setCell ⟨xs, 0, none⟩ u) := by
  obtain ⟨X, hX, h⟩ := h
  exact ⟨X, hX, (FK.put h.third 0 u).unthird⟩
theorem DK.front (h : DK IsD w0 d N F Q (kR v J xt xs T vs [rO vm A]) w) : DK IsD w0 d N F Q (rO vm A :: kR v J xt xs T vs []) w := h.perm (List.perm_append_comm (l₁ := kR v J xt xs T vs []) (l₂ := [rO vm A]))
theorem DK.back (h : DK IsD w0 d N F Q (rO vm A :: kR v J xt xs T vs []) w) : DK IsD w0 d N F Q (kR v J xt xs T vs [rO vm A]) w := h.perm (List.perm_append_comm (l₁ := [rO vm A]) (l₂ := kR v J xt xs T vs []))
theorem DK.setS (h : DK IsD w0 d N F Q (kR v J xt xs T vs l) w) {i : Nat} (hi : i < J.length) (z : Int) : ∃ g c, v = .slice (some ⟨g, 0, none⟩) J.length c ∧ w.frozen? ⟨g, i, none⟩ = false ∧ DK IsD w0 d N F Q (kR v (J.set i z) xt xs T vs l) (w.setCell ⟨g, i, none⟩ (.int .i64 z)) := by
  obtain ⟨X, hX, h⟩ := h
  obtain ⟨g, c, e, hf, h2⟩ := FK.setI h hi z
  exact ⟨g, c, e, hf, X, hX, h2⟩
theorem DK.atS (h : DK IsD w0 d N F Q (kR v J xt xs T vs l) w) {i : Nat} (hi : i < J.length) : ∃ g c, v = .slice (some ⟨g, 0, none⟩) J.length c ∧ w.cell? ⟨g, i, none⟩ = some (.int .i64 J[i]) := h.choose_spec.2.atI hi
theorem DK.kbox (h : DK IsD w0 d N F Q [] w) : DK IsD w0 d N F Q (kR (.slice none 0 0) [] w.heap.size (w.heap.size + 1) 0 (.slice none 0 0) []) ((w.alloc (.cells #[.int .i64 0] 3)).alloc (.cells #[.slice none 0 0] 46)) := by
  obtain ⟨X, hX, h⟩ := h
  have h1 := h.box 3 [.int .i64 0]
  have h2 := h1.box 46 [.slice none 0 0]
  rw [show (w.alloc (.cells [Value.int .i64 0].toArray 3)).heap.size = w.heap.size + 1 by simp] at h2
  exact ⟨X, hX, FK.nilI (h2.swap)⟩
theorem take_dk (tog : Bool) (h : DK IsD w0 d N F Q (kR v (seenL n (fr A ++ Y)) xt xs T v [rO vm A]) w) (hnd : (fr A ++ Y).Nodup) (hin : ∀ x ∈ fr A, ∃ i : Nat, x = i ∧ i < n) (htog : tog = true → Row1 A) (hn : n ≤ 100000) (hA : A.length ≤ 100000) (hT : 0 ≤ T ∧ T ≤ 100000) :
    Calls Try.prog 25 #[vm, .bool tog, .pointer (some ⟨xs, 0, none⟩), .pointer (some ⟨xt, 0, none⟩)] w fun e w' => e = .returned (.bool true) ∧ DK IsD w0 d N F Q (kR v (seenL n Y) xt xs (T - A.length) v [rO vm A]) w' := by
  obtain ⟨X, hX, h⟩ := h
  have hp : ∀ (T : Int) (J : List Int), (kR v J xt xs T v [rO vm A]).Perm (kRows vm A xt xs 46 T v J []) := fun T J => List.Perm.cons _ (List.perm_append_comm (l₁ := [rC xt 3 [.int .i64 T], rC xs 46 [v]]) (l₂ := [rO vm A]))
  refine (take_any tog (h.perm (hp _ _)) hnd hin htog hn hA hT).mono ?_
  rintro e w1 ⟨rfl, h2⟩
  exact ⟨rfl, X, hX, h2.perm (hp _ _).symm⟩
end
set_option maxRecDepth 100000 in
set_option maxHeartbeats 40000000 in
theorem lawDKeeps_any {IsD : Thg → Nat → Nat → List Obs → Obs → Prop} (ok : DepOk IsD) (nn : Int) (a : Option Addr) (len cap : Nat) (O : Nat → OpD) (w : World) (hO : OpsD w a len O) :
    Calls Try.prog 4 #[.int .i64 nn, .slice a len cap] w fun e w' => e = .returned (.bool true) ∧ Below w.heap.size w w' := by
  have HO := Lib.hid hO
  clear hO
  by_cases hlen : len ≤ 200
  · have hlenI : ¬ (200 < (len : Int)) := by omega
    go_enter Try.func4, Try.ntmps4
    go_wp2_with (fail)
    refine (new_dk ok nn w).mono ?_
    rintro e w1 ⟨d, rfl, hD⟩
    have h32 := clN_pos nn
    have HD := Lib.hid hD.kbox
    clear hD
    generalize clN nn = N at *
    go_wp2_with (fail)
    generalize (w1.alloc (.cells #[.int .i64 0] 3)).alloc (.cells #[.slice none 0 0] 46) = w2 at *
    generalize w1.heap.size + 1 = xs at *
    generalize w1.heap.size = xt at *
    go_loopw [6, 25] (fun nx i wr => ∃ (k n : Nat) (v : Value) (F : List Obs) (Q : Obs), k ≤ len ∧ nx = .int .i64 n ∧ i = .int .i64 k ∧ n ≤ 32 * k ∧ Q.length ≤ k ∧ Hid (DK IsD w d N F Q (kR v (seenL n (fr (dpAll F Q))) xt xs ((dpAll F Q).length : Nat) v []) wr) ∧ Hid (KX n (fr (dpAll F Q))) ∧ Hid (∀ m ∈ F, Row1 m)) (fun _ i _ => len - (intOf i).toNat)
    case atStart => exact ⟨0, 0, _, [], [], Nat.zero_le _, rfl, rfl, Nat.le_refl _, Nat.le_refl _, HD, Lib.hid ⟨List.nodup_nil, fun x hx => absurd hx List.not_mem_nil⟩, Lib.hid (fun m hm => absurd hm List.not_mem_nil)⟩
    case round =>
      clear HD
      obtain ⟨k, n, v, F, Q, hk, rfl, rfl, hn, hq, HD, HX, HR⟩ := hrel
      by_cases hlt : k < len
      · skip
        have hltI : (k : Int) < (len : Int) := by omega
        obtain ⟨b, o, rfl, _, hok, hc⟩ := HO.out.one k hlt
        have HLT := Lib.hid hlt
        have HCC := Lib.hid hc
        obtain ⟨c0, c1, c2⟩ := hc wr HD.out.bel
        obtain ⟨hz1, hz2, hn1, hn2⟩ := hok
        clear hc hlt c1 c2 hz1 hz2
        generalize O k = op at c0 HCC hn1 hn2
        obtain ⟨kind, opn, la, ln, cp, z⟩ := op
        dsimp only at c0 HCC hn1 hn2
        have hn8 : n ≤ 6400 := by omega
        have hq8 : Q.length ≤ 200 := by omega
        have HIV := Lib.hid (HD.out.inv ok)
        have HAL := Lib.hid (show (dpAll F Q).length = F.length * N + Q.length ∧ (dpAll F Q).length ≤ 2300 by
          have h1 := all_len F Q HIV.out.2.2.2
          have h2 := HIV.out.2.2.1
          have h3 : F.length * N ≤ 64 * 32 := Nat.mul_le_mul h2 HIV.out.2.1
          exact ⟨h1, by omega⟩)
        go_upto_block 2 with (fail)
        clear c0 HO
        go_cut [6] (fun nx wc => ∃ (n' : Nat) (v : Value) (F' : List Obs) (Q' : Obs), nx = .int .i64 n' ∧ n' ≤ 32 * (k + 1) ∧ Q'.length ≤ k + 1 ∧ Hid (DK IsD w d N F' Q' (kR v (seenL n' (fr (dpAll F' Q'))) xt xs ((dpAll F' Q').length : Nat) v []) wc) ∧ Hid (KX n' (fr (dpAll F' Q'))) ∧ Hid (∀ m ∈ F', Row1 m))
        case first =>
          have HN40 := Lib.hid hn
          have HQ40 := Lib.hid hq
          by_cases hk0 : kind = 0
          · as_aux_lemma =>
              subst hk0
              have h32a := h32.1
              have h32b := h32.2
              have hT8 : (dpAll F Q).length ≤ 2300 := HAL.out.2
              have HINV := Lib.hid HIV.out
              obtain ⟨tn, htn⟩ : ∃ tn : Nat, (dpAll F Q).length = tn := ⟨_, rfl⟩
              obtain ⟨X, hX⟩ : ∃ X : List Int, fr (dpAll F Q) = X := ⟨_, rfl⟩
              have HTN := Lib.hid htn
              have HXX := Lib.hid hX
              rw [htn, hX] at HD
              rw [htn] at hT8
              rw [hX] at HX
              clear htn hX HAL HIV
              go_wp2_with (fail)
              refine (rounds_dk ok HD.out).mono ?_
              rintro e w2 ⟨rfl, hD⟩
              have HD2 := Lib.hid (DK.back hD.nilO)
              clear hD HD
              go_wp2_with (fail)
              go_loopw [6, 11, 37] (fun nx vm i wz => ∃ (c : Nat) (um u : Value), c ≤ N ∧ nx = .int .i64 ((n : Int) + (c : Int)) ∧ vm = um ∧ i = .int .i64 c ∧ Hid (DK IsD w d N F Q (kR u (seenL (n + c) X) xt xs (tn : Nat) u [rO um (obN n c)]) wz)) (fun _ _ i _ => N - (intOf i).toNat)
              case atStart => exact ⟨0, _, v, Nat.zero_le _, by simp, rfl, rfl, HD2⟩
              case round =>
                clear HD2
                obtain ⟨c, vm, u, hc, rfl, hv9, rfl, HD⟩ := hrel
                have hv9 := hv9.symm
                subst hv9
                by_cases hcl : c < N
                · have hcI : (c : Int) < (N : Int) := by omega
                  have HC := Lib.hid hcl
                  have HL1 := Lib.hid (show (obN n c).length ≤ 100000 by rw [obN_len]; omega)
                  have HL2 := Lib.hid (show (seenL (n + c) X).length ≤ 100000 by rw [seenL_len]; omega)
                  have HSM := Lib.hid (show seenL (n + c) X ++ [0] = seenL (n + (c + 1)) X from (seenL_more0 (HX.out.not (by omega))).symm)
                  have HOB := Lib.hid (show obN n c ++ [((n : Int) + (c : Int), 0)] = obN n (c + 1) by rw [obN_succ]; push_cast; rfl)
                  have HDF := Lib.hid HD.out.front
                  clear hcl hc HD
                  go_wp2_with (first
                    | (at_builtin; refine wpList_dkO rfl _ _ rfl HDF.out HL1.out ((n : Int) + (c : Int)) 0 rfl rfl ?_
                       intro v3 w3 hD3
                       rw [HOB.out] at hD3
                       have hD4 := DK.back hD3
                       obtain ⟨av, cv, ev⟩ := hD4.lenI
                       subst ev
                       obtain ⟨s0, f0⟩ := hD4.ks
                       have HD4 := Lib.hid hD4
                       clear hD3 hD4 HDF)
                    | (at_builtin; refine wpList_dkI rfl _ _ rfl HD4.out HL2.out 0 rfl rfl ?_
                       intro v5 w5 hD5
                       rw [HSM.out] at hD5
                       obtain ⟨a5, c5, e5⟩ := hD5.lenI
                       subst e5
                       have hD5' : DK IsD w d N F Q (kR _ _ xt xs _ _ [rO v3 (obN n (c + 1))]) w5 := hD5
                       obtain ⟨s1, f1⟩ := hD5'.ks
                       have HD6 := Lib.hid (hD5'.putS (.slice a5 (seenL (n + (c + 1)) X).length c5))
                       clear hD5 hD5' HD4 s0 f0)
                    | fail)
                  go_roundw
                  case rel => exact ⟨c + 1, _, _, HC.out, by rw [show (n : Int) + ((c + 1 : Nat) : Int) = (n : Int) + (c : Int) + 1 by omega], rfl, by go_num, HD6⟩
                  case measure => have := HC.out; simp [intOf]; omega
                · obtain rfl : c = N := by omega
                  clear hcl hc
                  have HNN := Lib.hid (show n + c ≤ 32 * (k + 1) by have := HN40.out; omega)
                  have HQQ := Lib.hid (show Q.length ≤ k + 1 by have := HQ40.out; omega)
                  obtain ⟨am, cm, em⟩ := HD.out.front.lenO
                  rw [obN_len] at em
                  subst em
                  go_wp2_with (fail)
                  refine (put_dk ok HD.out HD.out.front.srcO).mono ?_
                  rintro e w3 ⟨rfl, hD⟩
                  by_cases hf : F.length < 64
                  · rw [dpPut_ok (obN_len (n := n) (c := c)) hf] at hD ⊢
                    have hp := all_put F (obN n c) Q
                    have hpf : (fr (dpAll (F ++ [obN n c]) Q)).Perm (fr (obN n c) ++ X) := by rw [← HXX.out, ← fr_append]; exact fr_perm hp
                    have HPF := Lib.hid hpf
                    have HTL := Lib.hid (show (dpAll (F ++ [obN n c]) Q).length = tn + c by
                      have := hp.length_eq
                      rw [List.length_append, obN_len, HTN.out] at this
                      omega)
                    have HD3 := Lib.hid (show DK IsD w d c (F ++ [obN n c]) Q (kR u (seenL (n + c) ((fr (obN n c)).take 0 ++ X)) xt xs (tn : Nat) u [rO (.slice am c cm) (obN n c)]) w3 from hD)
                    clear hD HD hp hpf hf
                    go_wp2_with (fail)
                    go_loopw [56] (fun i wz => ∃ j : Nat, j ≤ c ∧ i = .int .i64 j ∧ Hid (DK IsD w d c (F ++ [obN n c]) Q (kR u (seenL (n + c) ((fr (obN n c)).take j ++ X)) xt xs (tn : Nat) u [rO (.slice am c cm) (obN n c)]) wz)) (fun i _ => c - (intOf i).toNat)
                    case atStart => exact ⟨0, Nat.zero_le _, rfl, HD3⟩
                    case round =>
                      clear HD3
                      obtain ⟨j, hj, rfl, HD⟩ := hrel
                      by_cases hjl : j < c
                      · have hjI : (j : Int) < (c : Int) := by omega
                        have HJ := Lib.hid hjl
                        have hjo : j < (obN n c).length := by rw [obN_len]; exact hjl
                        obtain ⟨g, gc, hgv, d0, d1⟩ := HD.out.front.atO hjo
                        rw [obN_len] at hgv
                        injection hgv with hgv _ hgc
                        subst hgv
                        subst hgc
                        have hoe : ((obN n c)[j]'hjo).1 = ((n + j : Nat) : Int) := by simp [obN]
                        have HQE := Lib.hid (show (fr (obN n c)).take (j + 1) = (fr (obN n c)).take j ++ [((n + j : Nat) : Int)] by rw [fr_take_succ hjo, hoe])
                        rw [hoe] at d0
                        obtain ⟨q, hq9⟩ : ∃ q, n + j = q := ⟨_, rfl⟩
                        have hqn : q < n + c := by omega
                        rw [hq9] at d0 HQE
                        obtain ⟨g2, c2, hv2, ci⟩ := HD.out.atS (i := q) (by rw [seenL_len]; exact hqn)
                        rw [seenL_len] at hv2
                        subst hv2
                        obtain ⟨s0, f0⟩ := HD.out.ks
                        have HS0 := Lib.hid (show wr.cell? ⟨xs, 0, none⟩ = _ ∧ wr.cell? ⟨g, j * 2, none⟩ = _ from ⟨s0, d0⟩)
                        have HNXT := Lib.hid (show ∀ V, DK IsD w d c (F ++ [obN n c]) Q (kR (.slice (some ⟨g2, 0, none⟩) (n + c) c2) (seenL (n + c) ((fr (obN n c)).take j ++ X)) xt xs (tn : Nat) (.slice (some ⟨g2, 0, none⟩) (n + c) c2) [rO (.slice (some ⟨g, 0, none⟩) c cm) (obN n c)]) V →
                            V.frozen? ⟨g2, q, none⟩ = false ∧ DK IsD w d c (F ++ [obN n c]) Q (kR (.slice (some ⟨g2, 0, none⟩) (n + c) c2) (seenL (n + c) ((fr (obN n c)).take (j + 1) ++ X)) xt xs (tn : Nat) (.slice (some ⟨g2, 0, none⟩) (n + c) c2) [rO (.slice (some ⟨g, 0, none⟩) c cm) (obN n c)]) (V.setCell ⟨g2, q, none⟩ (.int .i64 1)) from fun V hV => by
                          obtain ⟨g3, c3, hv3, fz, hset⟩ := hV.setS (i := q) (by rw [seenL_len]; exact hqn) 1
                          injection hv3 with hv3 _ _
                          injection hv3 with hv3
                          injection hv3 with hv3
                          subst hv3
                          rw [seenL_set1] at hset
                          rw [HQE.out]
                          refine ⟨fz, ?_⟩
                          rw [seenL_ext (Y := (q : Int) :: ((fr (obN n c)).take j ++ X)) (fun x => mem_mid)]
                          exact hset)
                        have HOB := Lib.hid (show ∀ V, DK IsD w d c (F ++ [obN n c]) Q (kR (.slice (some ⟨g2, 0, none⟩) (n + c) c2) (seenL (n + c) ((fr (obN n c)).take (j + 1) ++ X)) xt xs (tn : Nat) (.slice (some ⟨g2, 0, none⟩) (n + c) c2) [rO (.slice (some ⟨g, 0, none⟩) c cm) (obN n c)]) V → V.cell? ⟨xs, 0, none⟩ = some (.slice (some ⟨g2, 0, none⟩) (n + c) c2) ∧ V.cell? ⟨g, j * 2, none⟩ = some (.int .i64 q) from fun V hV => by
                          obtain ⟨g4, c4, hv4, e0, e1⟩ := hV.front.atO hjo
                          injection hv4 with hv4 _ _
                          injection hv4 with hv4
                          injection hv4 with hv4
                          subst hv4
                          rw [hoe, hq9] at e0
                          exact ⟨hV.ks.1, e0⟩)
                        have L1 := Lib.hid (show ∀ V, (V.cell? ⟨xs, 0, none⟩ = some (.slice (some ⟨g2, 0, none⟩) (n + c) c2) ∧ V.cell? ⟨g, j * 2, none⟩ = some (.int .i64 q)) → (loadVar 46 ⟨xs, 0, none⟩).run Try.prog V = .ok (.slice (some ⟨g2, 0, none⟩) (n + c) c2) V from fun V hV => run_loadVar_cell (fun _ => by kernel_rfl) hV.1)
                        have L2 := Lib.hid (show ∀ V, (V.cell? ⟨xs, 0, none⟩ = some (.slice (some ⟨g2, 0, none⟩) (n + c) c2) ∧ V.cell? ⟨g, j * 2, none⟩ = some (.int .i64 q)) → (loadVar 3 ⟨g, j * 2, none⟩).run Try.prog V = .ok (.int .i64 q) V from fun V hV => run_loadVar_cell (fun _ => by kernel_rfl) hV.2)
                        obtain ⟨zz, hzz⟩ : ∃ zz, wr.cell? ⟨g2, q, none⟩ = some (.int .i64 zz) := ⟨_, ci⟩
                        have HCI := Lib.hid hzz
                        clear hzz
                        have hqI : (q : Int) < (n : Int) + (c : Int) := by omega
                        clear hoe hjo hjl hj d0 d1 s0 f0 ci hq9
                        go_wp2_with (fail)
                        refine wp_region_lex1 (fun V => V.cell? ⟨xs, 0, none⟩ = some (.slice (some ⟨g2, 0, none⟩) (n + c) c2) ∧ V.cell? ⟨g, j * 2, none⟩ = some (.int .i64 q)) [(0, false), (1, false), (2, false), (3, false), (4, false), (5, false), (6, false), (7, true)] (by kernel_rfl) (by kernel_rfl) rfl (by kernel_rfl) HS0.out ?_
                        intro W0 hW0 hK0
                        obtain ⟨fz, hnx⟩ := HNXT.out W0 (by rw [hW0]; exact HD.out.later (Below.refl _ _).drew)
                        have ci0 : W0.cell? ⟨g2, q, none⟩ = some (.int .i64 zz) := by rw [hW0]; exact HCI.out
                        have HNX := Lib.hid hnx
                        clear hW0 hK0 hnx HNXT HD HCI HS0
                        refine lexH_load rfl rfl _ _ rfl rfl L1.out ?_
                        simp only [List.getElem_toArray, List.getElem_cons_zero, Act.put, List.setIfInBounds_toArray, List.set_cons_zero, List.set_cons_succ]
                        refine lexH_yieldE rfl rfl ?_
                        apply Exists.intro
                        refine ⟨fun W hW => ?_, ?_⟩
                        focus (go_simp; exact rfl)
                        simp only [List.getElem_toArray, List.getElem_cons_succ, List.getElem_cons_zero, Act.put, List.setIfInBounds_toArray, List.set_cons_zero, List.set_cons_succ]
                        refine lexH_yieldE rfl rfl ?_
                        apply Exists.intro
                        refine ⟨fun W hW => ?_, ?_⟩
                        focus (go_simp; exact rfl)
                        simp only [List.getElem_toArray, List.getElem_cons_succ, List.getElem_cons_zero, Act.put, List.setIfInBounds_toArray, List.set_cons_zero, List.set_cons_succ]
                        refine lexH_yieldE rfl rfl ?_
                        apply Exists.intro
                        refine ⟨fun W hW => ?_, ?_⟩
                        focus (go_simp; exact rfl)
                        simp only [List.getElem_toArray, List.getElem_cons_succ, List.getElem_cons_zero, Act.put, List.setIfInBounds_toArray, List.set_cons_zero, List.set_cons_succ]
                        refine lexH_yieldE rfl rfl ?_
                        apply Exists.intro
                        refine ⟨fun W hW => ?_, ?_⟩
                        focus (go_simp; exact rfl)
                        simp only [List.getElem_toArray, List.getElem_cons_succ, List.getElem_cons_zero, Act.put, List.setIfInBounds_toArray, List.set_cons_zero, List.set_cons_succ]
                        refine lexH_load rfl rfl _ _ rfl rfl L2.out ?_
                        simp only [List.getElem_toArray, List.getElem_cons_succ, List.getElem_cons_zero, Act.put, List.setIfInBounds_toArray, List.set_cons_zero, List.set_cons_succ]
                        refine lexH_yieldE rfl rfl ?_
                        apply Exists.intro
                        refine ⟨fun W hW => ?_, ?_⟩
                        focus (go_simp; exact rfl)
                        simp only [List.getElem_toArray, List.getElem_cons_succ, List.getElem_cons_zero, Act.put, List.setIfInBounds_toArray, List.set_cons_zero, List.set_cons_succ]
                        refine lexH_eff rfl rfl ?_
                        unfold Oper.wp
                        go_simp
                        refine ⟨HOB.out _ HNX.out, ?_⟩
                        refine lexH_nil ?_
                        clear L1 L2 HOB ci0 fz
                        go_wp2_with (fail)
                        go_roundw
                        case rel => exact ⟨j + 1, HJ.out, by go_num, HNX⟩
                        case measure => have := HJ.out; simp [intOf]; omega
                      · obtain rfl : j = c := by omega
                        have hD := HD.out
                        rw [List.take_of_length_le (by rw [fr_len, obN_len]; exact Nat.le_refl _), ← seenL_perm HPF.out] at hD
                        obtain ⟨t0, g0⟩ := hD.kt
                        have HD6 := Lib.hid (show DK IsD w d j (F ++ [obN n j]) Q (kR u (seenL (n + j) (fr (dpAll (F ++ [obN n j]) Q))) xt xs ((dpAll (F ++ [obN n j]) Q).length : Nat) u []) (wr.setCell ⟨xt, 0, none⟩ (.int .i64 ((tn : Int) + (j : Int)))) from by
                          have h := (hD.putT ((tn : Int) + (j : Int))).front.drop
                          rw [HTL.out]
                          push_cast
                          exact h)
                        have HX6 := Lib.hid (show KX (n + j) (fr (dpAll (F ++ [obN n j]) Q)) from (HX.out.put j).perm HPF.out.symm)
                        have HR6 := Lib.hid (show ∀ m ∈ F ++ [obN n j], Row1 m from fun m hm => by
                          rcases List.mem_append.1 hm with h | h
                          · exact HR.out m h
                          · rw [List.mem_singleton.1 h]; exact obN_row)
                        clear hD HD hj hjl
                        go_wp2_with (fail)
                        go_meet
                        exact ⟨n + j, u, F ++ [obN n j], Q, by push_cast; rfl, HNN.out, HQQ.out, HD6, HX6, HR6⟩
                  · rw [dpPut_full (obN_len (n := n) (c := c)) hf] at hD ⊢
                    have HD3 := Lib.hid (show DK IsD w d c F Q (kR u (seenL (n + c) (fr (dpAll F Q))) xt xs ((dpAll F Q).length : Nat) u []) w3 by rw [HXX.out, HTN.out]; exact hD.front.drop)
                    clear hD HD hf
                    go_wp2_with (fail)
                    go_meet
                    exact ⟨n + c, u, F, Q, by push_cast; rfl, HNN.out, HQQ.out, HD3, Lib.hid (by rw [HXX.out]; exact HX.out.more c), HR⟩
          · by_cases hk1 : kind = 1
            · as_aux_lemma =>
                subst hk1
                clear hk0
                go_wp2_with (fail)
                refine (get_dk ok HD.out).mono ?_
                rintro e w2 ⟨vm, rfl, hD⟩
                rcases List.eq_nil_or_concat F with rfl | ⟨F2, m, hF⟩
                · rw [dpGet_none] at hD ⊢
                  dsimp only at hD ⊢
                  have HD2 := Lib.hid (DK.back hD)
                  clear hD HD
                  go_wp2_with (fail)
                  refine (take_dk true (A := []) (n := n) (Y := fr (dpAll [] Q)) HD2.out HX.out.1 (fun x hx => absurd hx List.not_mem_nil) (fun _ => ⟨0, fun k h => absurd h (Nat.not_lt_zero _)⟩) (by omega) (by decide) (by have := HAL.out.2; omega)).mono ?_
                  rintro e w3 ⟨rfl, hD⟩
                  have HD3 := Lib.hid (show DK IsD w d N [] Q (kR v (seenL n (fr (dpAll [] Q))) xt xs ((dpAll [] Q).length : Nat) v []) w3 from by
                    have h := hD.front.drop
                    rw [show (((dpAll [] Q).length : Nat) : Int) - (([] : Obs).length : Int) = ((dpAll [] Q).length : Nat) by simp] at h
                    exact h)
                  clear hD HD2
                  go_wp2_with (fail)
                  go_meet
                  exact ⟨n, v, [], Q, rfl, by have := HN40.out; omega, by have := HQ40.out; omega, HD3, HX, HR⟩
                · rw [List.concat_eq_append] at hF
                  subst hF
                  rw [dpGet_snoc] at hD ⊢
                  dsimp only at hD ⊢
                  have hp := all_put F2 m Q
                  have hpf : (fr (dpAll (F2 ++ [m]) Q)).Perm (fr m ++ fr (dpAll F2 Q)) := by rw [← fr_append]; exact fr_perm hp
                  have hml : m.length = N := HIV.out.2.2.2 m (List.mem_append_right _ List.mem_cons_self)
                  have hX2 := HX.out.perm hpf
                  have hT : (((dpAll (F2 ++ [m]) Q).length : Nat) : Int) - (m.length : Int) = ((dpAll F2 Q).length : Nat) := by
                    have := hp.length_eq
                    rw [List.length_append] at this
                    omega
                  rw [seenL_perm hpf] at hD
                  obtain ⟨am, cm, em⟩ := hD.lenO
                  subst em
                  have HD2 := Lib.hid (DK.back hD)
                  have HX2 := Lib.hid hX2
                  have HT := Lib.hid hT
                  have HML := Lib.hid hml
                  have HR2 := Lib.hid (show ∀ m ∈ F2, Row1 m from fun m hm => HR.out m (List.mem_append_left _ hm))
                  have HRm := Lib.hid (HR.out m (List.mem_append_right _ List.mem_cons_self))
                  have HA2 := Lib.hid HAL.out.2
                  clear hD HD hp hpf hX2 hT hml HX HR HAL
                  go_wp2_with (fail)
                  refine (take_dk true (n := n) HD2.out HX2.out.1 (fun x hx => HX2.out.2 x (List.mem_append_left _ hx)) (fun _ => HRm.out) (by omega) (by rw [HML.out]; omega) (by have := HA2.out; omega)).mono ?_
                  rintro e w3 ⟨rfl, hD⟩
                  rw [HT.out] at hD
                  have HD3 := Lib.hid hD.front.drop
                  have hmI : (m.length : Int) = (N : Int) := by rw [HML.out]
                  clear hD HD2
                  go_wp2_with (fail)
                  refine (rounds_dk ok HD3.out).mono ?_
                  rintro e w4 ⟨rfl, hD⟩
                  have HD4 := Lib.hid hD
                  clear hD HD3
                  go_wp2_with (fail)
                  go_meet
                  exact ⟨n, v, F2, Q, rfl, by have := HN40.out; omega, by have := HQ40.out; omega, HD4, Lib.hid HX2.out.right, HR2⟩
            · by_cases hk2 : kind = 2
              · as_aux_lemma =>
                  subst hk2
                  clear hk0 hk1
                  have HNI := Lib.hid (show (n : Int) + 1 = ((n + 1 : Nat) : Int) by omega)
                  have HL := Lib.hid (show (seenL n (fr (dpAll F Q))).length ≤ 100000 by rw [seenL_len]; omega)
                  have HT1 := Lib.hid (show ((dpAll F Q).length : Int) + 1 = ((dpAll F (Q ++ [((n : Int), 0)])).length : Nat) by rw [all_queue, List.length_append, List.length_singleton]; omega)
                  have HSN := Lib.hid (show seenL n (fr (dpAll F Q)) ++ [1] = seenL (n + 1) (fr (dpAll F (Q ++ [((n : Int), 0)]))) by rw [all_queue, fr_append]; exact seenL_snoc.symm)
                  have HX2 := Lib.hid (show KX (n + 1) (fr (dpAll F (Q ++ [((n : Int), 0)]))) by rw [all_queue, fr_append]; exact HX.out.snoc)
                  have hT8 : (dpAll F Q).length ≤ 2300 := HAL.out.2
                  obtain ⟨tn, htn⟩ : ∃ tn : Nat, (dpAll F Q).length = tn := ⟨_, rfl⟩
                  rw [htn] at HD hT8 HT1
                  clear htn HX HAL
                  go_wp2_with (fail)
                  refine (queue_dk ok HD.out (n : Int) 0 (by omega)).mono ?_
                  rintro e w2 ⟨rfl, hD⟩
                  obtain ⟨av, cv, ev⟩ := hD.lenI
                  subst ev
                  obtain ⟨s0, f0⟩ := hD.ks
                  have HD2 := Lib.hid hD
                  clear hD HD
                  go_wp2_with (first
                    | (at_builtin; refine wpList_dkI rfl _ _ rfl HD2.out HL.out 1 rfl rfl ?_
                       intro v3 w3 hD3
                       rw [HSN.out] at hD3
                       obtain ⟨a3, c3, e3⟩ := hD3.lenI
                       subst e3
                       have hD3' : DK IsD w d N F (Q ++ [((n : Int), 0)]) (kR _ _ xt xs _ _ []) w3 := hD3
                       obtain ⟨s1, f1⟩ := hD3'.ks
                       have hD4 := hD3'.putS (.slice a3 (seenL (n + 1) (fr (dpAll F (Q ++ [((n : Int), 0)])))).length c3)
                       obtain ⟨t1, g1⟩ := hD4.kt
                       have hD5 := hD4.putT ((tn : Int) + 1)
                       rw [HT1.out] at hD5
                       have HD5 := Lib.hid hD5
                       clear hD3 hD3' hD4 hD5 HD2 s0 f0)
                    | fail)
                  rw [← HT1.out] at HD5
                  go_meet
                  exact ⟨n + 1, _, F, Q ++ [((n : Int), 0)], by rw [← HNI.out], by have := HN40.out; omega, by rw [List.length_append, List.length_singleton]; have := HQ40.out; omega, by rw [← HT1.out]; exact HD5, HX2, HR⟩
              · by_cases hk3 : kind = 3
                · as_aux_lemma =>
                    subst hk3
                    clear hk0 hk1 hk2
                    obtain ⟨c0, c1, c2⟩ := HCC.out wr HD.out.bel
                    clear c0 c2
                    go_wp2_with (fail)
                    refine (drain_dk ok HD.out opn (by omega)).mono ?_
                    rintro e w2 ⟨vm, rfl, hD⟩
                    have hkl : (dpK opn Q : Int) ≤ max opn 0 := by unfold dpK; omega
                    generalize dpK opn Q = kk at *
                    have hp := all_drain F Q kk
                    have hpf : (fr (dpAll F Q)).Perm (fr (Q.take kk) ++ fr (dpAll F (Q.drop kk))) := by rw [← fr_append]; exact fr_perm hp
                    have hX2 := HX.out.perm hpf
                    have hT : (((dpAll F Q).length : Nat) : Int) - ((Q.take kk).length : Int) = ((dpAll F (Q.drop kk)).length : Nat) := by
                      have := hp.length_eq
                      rw [List.length_append] at this
                      omega
                    rw [seenL_perm hpf] at hD
                    obtain ⟨am, cm, em⟩ := hD.lenO
                    subst em
                    have HD2 := Lib.hid (DK.back hD)
                    have HX2 := Lib.hid hX2
                    have HT := Lib.hid hT
                    have HA2 := Lib.hid HAL.out.2
                    have HML := Lib.hid (show (Q.take kk).length ≤ 100000 by rw [List.length_take]; omega)
                    have HDL := Lib.hid (show (Q.drop kk).length ≤ k + 1 by rw [List.length_drop]; omega)
                    have htl : ((Q.take kk).length : Int) ≤ max opn 0 := by rw [List.length_take]; omega
                    have hgt : ¬ (max opn 0 < ((Q.take kk).length : Int)) := by omega
                    obtain ⟨c0, c1, c2⟩ := HCC.out w2 HD2.out.bel
                    clear c0 c2 hD HD hp hpf hX2 hT HX HAL htl hkl
                    obtain ⟨mx, hmx⟩ : ∃ mx, max opn 0 = mx := ⟨_, rfl⟩
                    obtain ⟨A, hA⟩ : ∃ A : Obs, Q.take kk = A := ⟨_, rfl⟩
                    obtain ⟨B, hB⟩ : ∃ B : Obs, Q.drop kk = B := ⟨_, rfl⟩
                    rw [hA] at HD2 HX2 HT HML hgt ⊢
                    rw [hB] at HD2 HX2 HT HDL
                    clear hA hB
                    by_cases h0 : opn < 0
                    · have hA0 : A.length = 0 := by omega
                      obtain rfl : A = [] := List.eq_nil_of_length_eq_zero hA0
                      rw [show ([] : Obs).length = 0 from rfl] at HD2 ⊢
                      clear hgt hmx hA0
                      go_wp2_with (fail)
                      refine (take_dk false (n := n) HD2.out HX2.out.1 (fun x hx => HX2.out.2 x (List.mem_append_left _ hx)) (fun h => by cases h) (by omega) HML.out (by have := HA2.out; omega)).mono ?_
                      rintro e w3 ⟨rfl, hD⟩
                      rw [HT.out] at hD
                      have HD3 := Lib.hid hD.front.drop
                      clear hD HD2 c1
                      go_wp2_with (fail)
                      go_meet
                      exact ⟨n, v, F, B, rfl, by have := HN40.out; omega, HDL.out, HD3, Lib.hid HX2.out.right, HR⟩
                    · have hg : ¬ (opn < (A.length : Int)) := by omega
                      clear hgt hmx
                      go_wp2_with (fail)
                      refine (take_dk false (n := n) HD2.out HX2.out.1 (fun x hx => HX2.out.2 x (List.mem_append_left _ hx)) (fun h => by cases h) (by omega) HML.out (by have := HA2.out; omega)).mono ?_
                      rintro e w3 ⟨rfl, hD⟩
                      rw [HT.out] at hD
                      have HD3 := Lib.hid hD.front.drop
                      clear hD HD2 c1
                      go_wp2_with (fail)
                      go_meet
                      exact ⟨n, v, F, B, rfl, by have := HN40.out; omega, HDL.out, HD3, Lib.hid HX2.out.right, HR⟩
                · have e1 : (kind == 0) = false := by simpa using hk0
                  have e2 : (kind == 1) = false := by simpa using hk1
                  have e3 : (kind == 2) = false := by simpa using hk2
                  have e4 : (kind == 3) = false := by simpa using hk3
                  clear hk0 hk1 hk2 hk3
                  go_wp2_with (fail)
                  go_meet
                  exact ⟨n, v, F, Q, rfl, by omega, by omega, HD, HX, HR⟩
        case rest =>
          obtain ⟨n', v', F', Q', rfl, hn', hq', HD', HX', HR'⟩ := hcut
          clear HD HX HR HIV HAL hn hq
          have HIV := Lib.hid (HD'.out.inv ok)
          have HLT2 := HLT.out
          have hall := all_len F' Q' HIV.out.2.2.2
          have hF64 := HIV.out.2.2.1
          have hfn2 : F'.length * N ≤ 64 * 32 := Nat.mul_le_mul hF64 h32.2
          have HQ10 := Lib.hid (show Q'.length ≤ 10000 by omega)
          have HNN := Lib.hid hn'
          have HQQ := Lib.hid hq'
          obtain ⟨fn, hfn⟩ : ∃ fn, F'.length * N = fn := ⟨_, rfl⟩
          have hmul0 : (F'.length : Int) * (N : Int) = (fn : Int) := by rw [← hfn]; push_cast; rfl
          rw [hfn] at hall hfn2
          obtain ⟨tn, htn⟩ : ∃ tn, (dpAll F' Q').length = tn := ⟨_, rfl⟩
          obtain ⟨ql, hql⟩ : ∃ ql, Q'.length = ql := ⟨_, rfl⟩
          obtain ⟨fl, hfl⟩ : ∃ fl, F'.length = fl := ⟨_, rfl⟩
          have HTN := Lib.hid htn
          have HQL := Lib.hid hql
          have HFL := Lib.hid hfl
          have hD' := HD'.out
          rw [htn] at hD' hall
          rw [hql] at hall
          rw [hfl] at hmul0 hF64
          have hmul : (fl : Int) * (N : Int) = (fn : Int) := hmul0
          have hadd : (ql : Int) + (fn : Int) = (tn : Int) := by omega
          have hq300 : ql ≤ 10000 := by omega
          have hfn300 : fn ≤ 2048 := by omega
          have L1 := Lib.hid (show ∀ V, V.cell? ⟨xt, 0, none⟩ = some (.int .i64 tn) → (loadVar 3 ⟨xt, 0, none⟩).run Try.prog V = .ok (.int .i64 tn) V from fun V hV => run_loadVar_cell (fun _ => by kernel_rfl) hV)
          have HDx := Lib.hid hD'
          have HWF := Lib.hid (show IntKind.i64.wrap (fn : Int) = fn by rw [IntKind.wrap_i64]; omega)
          have HWT := Lib.hid (show IntKind.i64.wrap (tn : Int) = tn by rw [IntKind.wrap_i64]; omega)
          have HMU := Lib.hid hmul
          have HAD := Lib.hid hadd
          clear hmul hadd hD' HD' hfn htn hql hfl hmul0 hall hfn2 HLT2 hn' hq'
          go_wp2_with (fail)
          refine wp_region_lex1 (fun V => V.cell? ⟨xt, 0, none⟩ = some (.int .i64 tn)) [(0, false), (1, false), (3, false), (5, false), (2, true), (4, true), (6, true), (7, false), (8, false), (9, false), (10, false), (11, false), (14, false), (12, true), (13, false), (15, false), (16, false)] (by kernel_rfl) (by kernel_rfl) rfl (by kernel_rfl) HDx.out.kt.1 ?_
          intro W0 hW0 hK0
          have HD0 := Lib.hid (show DK IsD w d N F' Q' (kR v' (seenL n' (fr (dpAll F' Q'))) xt xs (tn : Nat) v' []) W0 by rw [hW0]; exact HDx.out.later (Below.refl _ _).drew)
          clear hW0 hK0 HDx
          refine lexH_load rfl rfl _ _ rfl rfl L1.out ?_
          simp only [List.getElem_toArray, List.getElem_cons_zero, Act.put, List.setIfInBounds_toArray, List.set_cons_zero, List.set_cons_succ]
          refine lexH_yieldE rfl rfl ?_
          apply Exists.intro
          refine ⟨fun W hW => ?_, ?_⟩
          focus (go_simp; exact rfl)
          simp only [List.getElem_toArray, List.getElem_cons_succ, List.getElem_cons_zero, Act.put, List.setIfInBounds_toArray, List.set_cons_zero, List.set_cons_succ]
          refine lexH_yieldE rfl rfl ?_
          apply Exists.intro
          refine ⟨fun W hW => ?_, ?_⟩
          focus (go_simp; exact rfl)
          simp only [List.getElem_toArray, List.getElem_cons_succ, List.getElem_cons_zero, Act.put, List.setIfInBounds_toArray, List.set_cons_zero, List.set_cons_succ]
          refine lexH_yieldE rfl rfl ?_
          apply Exists.intro
          refine ⟨fun W hW => ?_, ?_⟩
          focus (go_simp; exact rfl)
          simp only [List.getElem_toArray, List.getElem_cons_succ, List.getElem_cons_zero, Act.put, List.setIfInBounds_toArray, List.set_cons_zero, List.set_cons_succ]
          refine lexH_call 24 #[.pointer (some ⟨d, 0, none⟩)] rfl rfl ?_ ?_
          focus (go_simp; done)
          refine (queued_dk ok HD0.out).mono ?_
          rintro e x1 ⟨rfl, hD⟩
          rw [HQL.out]
          have HD1 := Lib.hid hD
          refine ⟨_, rfl, hD.kt.1, ?_⟩
          clear hD HD0
          simp only [List.getElem_toArray, List.getElem_cons_succ, List.getElem_cons_zero, Act.put, List.setIfInBounds_toArray, List.set_cons_zero, List.set_cons_succ]
          refine lexH_call 23 #[.pointer (some ⟨d, 0, none⟩)] rfl rfl ?_ ?_
          focus (go_simp; done)
          refine (fulls_dk ok HD1.out).mono ?_
          rintro e x2 ⟨rfl, hD⟩
          rw [HFL.out]
          have HD2 := Lib.hid hD
          refine ⟨_, rfl, hD.kt.1, ?_⟩
          clear hD HD1
          simp only [List.getElem_toArray, List.getElem_cons_succ, List.getElem_cons_zero, Act.put, List.setIfInBounds_toArray, List.set_cons_zero, List.set_cons_succ]
          refine lexH_call 11 #[.pointer (some ⟨d, 0, none⟩)] rfl rfl ?_ ?_
          focus (go_simp; done)
          refine (rounds_dk ok HD2.out).mono ?_
          rintro e x3 ⟨rfl, hD⟩
          have HD3 := Lib.hid hD
          refine ⟨_, rfl, hD.kt.1, ?_⟩
          clear hD HD2
          simp only [List.getElem_toArray, List.getElem_cons_succ, List.getElem_cons_zero, Act.put, List.setIfInBounds_toArray, List.set_cons_zero, List.set_cons_succ]
          refine lexH_yield rfl rfl (v := .int .i64 fn) (fun W hW => ?_) ?_
          focus (go_simp; simp [HMU.out, HWF.out])
          simp only [List.getElem_toArray, List.getElem_cons_succ, List.getElem_cons_zero, Act.put, List.setIfInBounds_toArray, List.set_cons_zero, List.set_cons_succ]
          refine lexH_yield rfl rfl (v := .int .i64 tn) (fun W hW => ?_) ?_
          focus (go_simp; simp [HAD.out, HWT.out])
          simp only [List.getElem_toArray, List.getElem_cons_succ, List.getElem_cons_zero, Act.put, List.setIfInBounds_toArray, List.set_cons_zero, List.set_cons_succ]
          refine lexH_yield rfl rfl (v := .bool false) (fun W hW => ?_) ?_
          focus (go_simp; done)
          simp only [List.getElem_toArray, List.getElem_cons_succ, List.getElem_cons_zero, Act.put, List.setIfInBounds_toArray, List.set_cons_zero, List.set_cons_succ]
          refine lexH_yieldE rfl rfl ?_
          apply Exists.intro
          refine ⟨fun W hW => ?_, ?_⟩
          focus (go_simp; exact rfl)
          simp only [List.getElem_toArray, List.getElem_cons_succ, List.getElem_cons_zero, Act.put, List.setIfInBounds_toArray, List.set_cons_zero, List.set_cons_succ]
          refine lexH_yieldE rfl rfl ?_
          apply Exists.intro
          refine ⟨fun W hW => ?_, ?_⟩
          focus (go_simp; exact rfl)
          simp only [List.getElem_toArray, List.getElem_cons_succ, List.getElem_cons_zero, Act.put, List.setIfInBounds_toArray, List.set_cons_zero, List.set_cons_succ]
          refine lexH_load rfl rfl _ _ rfl rfl L1.out ?_
          simp only [List.getElem_toArray, List.getElem_cons_succ, List.getElem_cons_zero, Act.put, List.setIfInBounds_toArray, List.set_cons_zero, List.set_cons_succ]
          refine lexH_call 21 #[.pointer (some ⟨d, 0, none⟩)] rfl rfl ?_ ?_
          focus (go_simp; done)
          refine (all_dk ok HD3.out HQ10.out).mono ?_
          rintro e x4 ⟨va, rfl, hD⟩
          obtain ⟨aa, ca, ea⟩ := hD.lenO
          subst ea
          rw [HTN.out] at hD ⊢
          have HD4 := Lib.hid hD.drop
          refine ⟨_, rfl, HD4.out.kt.1, ?_⟩
          clear hD HD3 L1
          simp only [List.getElem_toArray, List.getElem_cons_succ, List.getElem_cons_zero, Act.put, List.setIfInBounds_toArray, List.set_cons_zero, List.set_cons_succ]
          refine lexH_yieldE rfl rfl ?_
          apply Exists.intro
          refine ⟨fun W hW => ?_, ?_⟩
          focus (go_simp; exact rfl)
          simp only [List.getElem_toArray, List.getElem_cons_succ, List.getElem_cons_zero, Act.put, List.setIfInBounds_toArray, List.set_cons_zero, List.set_cons_succ]
          refine lexH_yieldE rfl rfl ?_
          apply Exists.intro
          refine ⟨fun W hW => ?_, ?_⟩
          focus (go_simp; exact rfl)
          simp only [List.getElem_toArray, List.getElem_cons_succ, List.getElem_cons_zero, Act.put, List.setIfInBounds_toArray, List.set_cons_zero, List.set_cons_succ]
          refine lexH_yieldE rfl rfl ?_
          apply Exists.intro
          refine ⟨fun W hW => ?_, ?_⟩
          focus (go_simp; exact rfl)
          simp only [List.getElem_toArray, List.getElem_cons_succ, List.getElem_cons_zero, Act.put, List.setIfInBounds_toArray, List.set_cons_zero, List.set_cons_succ]
          refine lexH_nil ?_
          go_wp2_with (fail)
          rw [← HTN.out] at HD4
          go_roundw
          case rel => exact ⟨k + 1, n', v', F', Q', HLT.out, rfl, by go_num, HNN.out, HQQ.out, HD4, HX', HR'⟩
          case measure => have := HLT.out; simp [intOf]; omega
      · obtain rfl : k = len := by omega
        clear hlt hk HO
        have hn6 : n ≤ 6400 := by omega
        have HIV := Lib.hid (HD.out.inv ok)
        have HAL := Lib.hid (show (dpAll F Q).length ≤ 3000 by
          have h1 := all_len F Q HIV.out.2.2.2
          have h3 : F.length * N ≤ 64 * 32 := Nat.mul_le_mul HIV.out.2.2.1 HIV.out.2.1
          omega)
        have HQ10 := Lib.hid (show Q.length ≤ 10000 by omega)
        clear hn hq
        go_wp2_with (fail)
        refine (flush_dk ok HD.out HQ10.out).mono ?_
        rintro e w2 ⟨vm, rfl, hD⟩
        obtain ⟨am, cm, em⟩ := hD.lenO
        subst em
        obtain ⟨A, hA⟩ : ∃ A : Obs, dpAll F Q = A := ⟨_, rfl⟩
        rw [hA] at hD HX HAL ⊢
        clear hA
        have HD2 := Lib.hid (show DK IsD w d N [] [] (kR v (seenL n (fr A ++ [])) xt xs (A.length : Nat) v [rO (.slice am A.length cm) A]) w2 by rw [List.append_nil]; exact DK.back hD)
        have HX2 := Lib.hid (show KX n (fr A ++ []) by rw [List.append_nil]; exact HX.out)
        clear hD HD HX HR
        go_wp2_with (fail)
        refine (take_dk false (n := n) HD2.out HX2.out.1 (fun x hx => HX2.out.2 x (List.mem_append_left _ hx)) (fun h => by cases h) (by omega) (by have := HAL.out; omega) (by have := HAL.out; omega)).mono ?_
        rintro e w3 ⟨rfl, hD⟩
        rw [show ((A.length : Nat) : Int) - (A.length : Int) = 0 by omega] at hD
        obtain ⟨t0, _⟩ := hD.kt
        have HD3 := Lib.hid hD
        clear hD HD2
        go_wp2_with (fail)
        refine (all_dk ok HD3.out (by decide)).mono ?_
        rintro e w4 ⟨va, rfl, hD⟩
        obtain ⟨aa, ca, ea⟩ := hD.lenO
        subst ea
        rw [show (dpAll [] []).length = 0 from rfl]
        have HD4 := Lib.hid hD
        clear hD HD3 t0
        go_wp2_with (fail)
        refine (known_any ok _).mono ?_
        rintro e w5 ⟨rfl, hb⟩
        have HF := Lib.hid (HD4.out.bel.trans (hb.mono HD4.out.le))
        clear hb
        go_wp2_with (fail)
        go_ret
        exact ⟨rfl, HF.out⟩
  · have hlenI : 200 < (len : Int) := by omega
    go_enter Try.func4, Try.ntmps4
    go_wp2_with (fail)
    refine (known_any ok _).mono ?_
    rintro e w5 ⟨rfl, hb⟩
    have HB := Lib.hid hb
    clear hb
    go_wp2_with (fail)
    go_ret
    exact ⟨rfl, HB.out⟩
end Go.Proofs.Ytagnipkannogoaa
