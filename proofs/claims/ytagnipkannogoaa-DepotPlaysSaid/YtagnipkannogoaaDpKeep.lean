/-
  DepotKeeps: which numbers are there; the closure that takes.
-/
import Derived.Test.YtagnipkannogoaaDpLawFull
namespace Go.Proofs.Ytagnipkannogoaa
open Go.RowKit Go
section
variable {w0 w : World} {X : Thg} {l : List Rw} {v : Value} {I : List Int}
/-- An int of the first row is written. -/
theorem FK.setI (h : FK w0 X (rI v I :: l) w) {i : Nat} (hi : i < I.length) (z : Int) : ∃ g c, v = .slice (some ⟨g, 0, none⟩) I.length c ∧ w.frozen? ⟨g, i, none⟩ = false ∧ FK w0 X (rI v (I.set i z) :: l) (w.setCell ⟨g, i, none⟩ (.int .i64 z)) := by
  have hown : w.ownsRow 0 3 1 v I.length (recV encI I) := h.row _ List.mem_cons_self
  have hown2 := hown
  obtain ⟨hl, ⟨_, e0⟩ | ⟨g, cap, cur, rfl, _, hg, h1, h2, h3, h4⟩⟩ := hown
  · omega
  · refine ⟨g, cap, rfl, by simp [World.frozen?, hg], h.grow ((Only.setCell (S := fun k => k = g) w ⟨g, i, none⟩ rfl _).mono (fun k hk => by rw [hk]; rfl)) ?_ (.inl rfl)⟩
    show World.ownsRow _ 0 3 1 _ (I.set i z).length (recV encI (I.set i z))
    rw [List.length_set]
    refine ⟨by rw [recV_len encI_len, List.length_set], .inr ⟨g, cap, cur.setIfInBounds i (.int .i64 z), rfl, Nat.zero_le _, by simp [World.setCell, Array.getElem?_modify, hg], h1, h2, by simpa using h3, ?_⟩⟩
    rw [Array.toList_setIfInBounds, List.take_set, h4]
    apply List.ext_getElem?
    intro j
    have hset : ∀ (J : List Int) (i : Nat), (recV encI J).set i (.int .i64 z) = recV encI (J.set i z) := by
      intro J
      induction J with
      | nil => intro i; simp [recV]
      | cons x r ih =>
        intro i
        cases i with
        | zero => simp [recV, encI]
        | succ i => simp [recV, encI, ih]
    rw [hset]
end
/-- Is the number there? -/
def inS (X : List Int) (i : Nat) : Int := if (i : Int) ∈ X then 1 else 0
def seenL (n : Nat) (X : List Int) : List Int := (List.range n).map (inS X)
theorem seenL_len (n : Nat) (X : List Int) : (seenL n X).length = n := by simp [seenL]
theorem seenL_at {n i : Nat} {X : List Int} (h2 : i < (seenL n X).length) : (seenL n X)[i] = inS X i := by simp [seenL]
theorem seenL_ext {n : Nat} {X Y : List Int} (h : ∀ x, x ∈ X ↔ x ∈ Y) : seenL n X = seenL n Y := by
  unfold seenL
  apply List.map_congr_left
  intro i _
  unfold inS
  simp only [h]
theorem seenL_set0 {n m : Nat} {X : List Int} (h : (m : Int) ∉ X) : (seenL n ((m : Int) :: X)).set m 0 = seenL n X := by
  apply List.ext_getElem?
  intro j
  unfold seenL
  by_cases hj : j < n
  · by_cases e : m = j
    · subst e
      rw [List.getElem?_set_self (by simpa using hj), List.getElem?_map, List.getElem?_range hj]
      unfold inS
      rw [Option.map_some, if_neg h]
    · rw [List.getElem?_set_ne e, List.getElem?_map, List.getElem?_map, List.getElem?_range hj]
      unfold inS
      rw [Option.map_some, Option.map_some]
      congr 1
      have : ((j : Int) ∈ (m : Int) :: X) ↔ (j : Int) ∈ X := by
        rw [List.mem_cons]
        exact ⟨fun h => h.resolve_left (by omega), .inr⟩
      simp only [this]
  · rw [List.getElem?_eq_none (by simp; omega), List.getElem?_eq_none (by simp; omega)]
theorem seenL_set1 {n m : Nat} {X : List Int} : (seenL n X).set m 1 = seenL n ((m : Int) :: X) := by
  apply List.ext_getElem?
  intro j
  unfold seenL
  by_cases hj : j < n
  · by_cases e : m = j
    · subst e
      rw [List.getElem?_set_self (by simpa using hj), List.getElem?_map, List.getElem?_range hj]
      unfold inS
      rw [Option.map_some, if_pos List.mem_cons_self]
    · rw [List.getElem?_set_ne e, List.getElem?_map, List.getElem?_map, List.getElem?_range hj]
      unfold inS
      rw [Option.map_some, Option.map_some]
      congr 1
      have : ((j : Int) ∈ (m : Int) :: X) ↔ (j : Int) ∈ X := by
        rw [List.mem_cons]
        exact ⟨fun h => h.resolve_left (by omega), .inr⟩
      simp only [this]
  · rw [List.getElem?_eq_none (by simp; omega), List.getElem?_eq_none (by simp; omega)]
theorem seenL_more0 {n : Nat} {X : List Int} (h : (n : Int) ∉ X) : seenL (n + 1) X = seenL n X ++ [0] := by
  unfold seenL
  rw [List.range_succ, List.map_append]
  simp only [List.map_cons, List.map_nil]
  congr 2
  unfold inS
  rw [if_neg h]
theorem seenL_more1 {n : Nat} {X : List Int} (h : (n : Int) ∈ X) : seenL (n + 1) X = seenL n X ++ [1] := by
  unfold seenL
  rw [List.range_succ, List.map_append]
  simp only [List.map_cons, List.map_nil]
  congr 2
  unfold inS
  rw [if_pos h]
def fr (A : Obs) : List Int := A.map Prod.fst
/-- One number behind the other. -/
def Row1 (A : Obs) : Prop := ∃ s : Nat, ∀ k (h : k < A.length), A[k].1 = ((s + k : Nat) : Int)
section
variable {w0 w : World} {X : Thg} {l : List Rw} {v vm : Value} {n : Nat} {A : Obs} {Y : List Int} {xt xs : Nat} {T : Int} {TS : TypeId}
/-- The rows of the law: what is told, how many are there, the numbers. -/
def kRows (vm : Value) (A : Obs) (xt xs : Nat) (TS : TypeId) (T : Int) (v : Value) (J : List Int) (l : List Rw) : List Rw := rI v J :: rO vm A :: rC xt 3 [.int .i64 T] :: rC xs TS [v] :: l
theorem kRows_t (h : FK w0 X (kRows vm A xt xs TS T v Y l) w) : w.cell? ⟨xt, 0, none⟩ = some (.int .i64 T) ∧ w.frozen? ⟨xt, 0, none⟩ = false := rC_cell (h.row (rC xt 3 [.int .i64 T]) (by simp [kRows])) (j := 0) rfl
theorem kRows_s (h : FK w0 X (kRows vm A xt xs TS T v Y l) w) : w.cell? ⟨xs, 0, none⟩ = some v ∧ w.frozen? ⟨xs, 0, none⟩ = false := rC_cell (h.row (rC xs TS [v]) (by simp [kRows])) (j := 0) rfl
theorem kRows_putT (h : FK w0 X (kRows vm A xt xs TS T v Y l) w) (T' : Int) : FK w0 X (kRows vm A xt xs TS T' v Y l) (w.setCell ⟨xt, 0, none⟩ (.int .i64 T')) := by
  have h2 := (h.perm (l2 := rC xt 3 [.int .i64 T] :: rI v Y :: rO vm A :: rC xs TS [v] :: l) ((List.Perm.cons _ (List.Perm.swap _ _ _)).trans (List.Perm.swap _ _ _))).put 0 (.int .i64 T')
  exact h2.perm ((List.Perm.swap _ _ _).trans (List.Perm.cons _ (List.Perm.swap _ _ _)))
theorem kRows_told (h : FK w0 X (kRows vm A xt xs TS T v Y l) w) {k : Nat} (hk : k < A.length) : ∃ g c, vm = .slice (some ⟨g, 0, none⟩) A.length c ∧ w.cell? ⟨g, k * 2, none⟩ = some (.int .i64 A[k].1) ∧ w.cell? ⟨g, k * 2 + 1, none⟩ = some (.int .i64 A[k].2) := FK.atO h.swap hk
theorem kRows_len (h : FK w0 X (kRows vm A xt xs TS T v Y l) w) : ∃ a c, vm = .slice a A.length c := owns_lenS (h.row (rO vm A) (by simp [kRows]))
set_option maxRecDepth 100000 in
set_option maxHeartbeats 8000000 in
theorem take_any (tog : Bool) (h : FK w0 X (kRows vm A xt xs TS T v (seenL n (fr A ++ Y)) l) w) (hnd : (fr A ++ Y).Nodup) (hin : ∀ x ∈ fr A, ∃ i : Nat, x = i ∧ i < n) (htog : tog = true → Row1 A) (hn : n ≤ 100000) (hA : A.length ≤ 100000) (hT : 0 ≤ T ∧ T ≤ 100000) :
    Calls Try.prog 25 #[vm, .bool tog, .pointer (some ⟨xs, 0, none⟩), .pointer (some ⟨xt, 0, none⟩)] w fun e w' => e = .returned (.bool true) ∧ FK w0 X (kRows vm A xt xs TS (T - A.length) v (seenL n Y) l) w' := by
  have HIN := Lib.hid hin
  have HND := Lib.hid hnd
  have HTG := Lib.hid htog
  have HTT := Lib.hid hT
  obtain ⟨am, cm, hvm⟩ := kRows_len h
  subst hvm
  have HK := Lib.hid (show FK w0 X (kRows (.slice am A.length cm) A xt xs TS T v (seenL n ((fr A).drop 0 ++ Y)) l) w from h)
  clear hin hnd htog hT h
  go_enter Try.func25, Try.ntmps25
  go_wp2_with (fail)
  go_loopw [11] (fun i wr => ∃ k : Nat, k ≤ A.length ∧ i = .int .i64 k ∧ Hid (FK w0 X (kRows (.slice am A.length cm) A xt xs TS T v (seenL n ((fr A).drop k ++ Y)) l) wr)) (fun i _ => A.length - (intOf i).toNat)
  case atStart => exact ⟨0, Nat.zero_le _, rfl, HK⟩
  case round =>
    clear HK
    obtain ⟨k, hk, rfl, HK⟩ := hrel
    by_cases hlt : k < A.length
    · have hltI : (k : Int) < (A.length : Int) := by omega
      have HLT := Lib.hid hlt
      have hfk : k < (fr A).length := by unfold fr; rw [List.length_map]; exact hlt
      have hdr : (fr A).drop k = (fr A)[k] :: (fr A).drop (k + 1) := List.drop_eq_getElem_cons hfk
      have hfe : (fr A)[k] = (A[k]'hlt).1 := List.getElem_map _
      obtain ⟨m, hm, hmn⟩ := HIN.out (fr A)[k] (List.getElem_mem hfk)
      have hnot : (m : Int) ∉ (fr A).drop (k + 1) ++ Y := by
        have h1 : ((fr A).drop k ++ Y).Nodup := HND.out.sublist ((List.drop_sublist k _).append (List.Sublist.refl Y))
        rw [hdr, hm, List.cons_append] at h1
        exact (List.nodup_cons.1 h1).1
      have hK := HK.out
      rw [hdr, hm, List.cons_append] at hK
      obtain ⟨g, c, hgv, d0, d1⟩ := kRows_told hK hlt
      injection hgv with hgv _ hgc
      subst hgv
      subst hgc
      obtain ⟨cs, fs⟩ := kRows_s hK
      obtain ⟨g2, c2, hv2, ci⟩ := FK.atI hK (k := m) (by rw [seenL_len]; exact hmn)
      obtain ⟨g3, c3, hv3, fz, hset⟩ := FK.setI hK (i := m) (by rw [seenL_len]; exact hmn) 0
      rw [hv2] at hv3
      injection hv3 with hv3 _ hv4
      injection hv3 with hv3
      injection hv3 with hv3
      subst hv3
      subst hv4
      rw [seenL_at] at ci
      rw [show inS ((m : Int) :: ((fr A).drop (k + 1) ++ Y)) m = 1 by unfold inS; rw [if_pos List.mem_cons_self]] at ci
      rw [seenL_set0 hnot] at hset
      rw [seenL_len] at hv2
      subst hv2
      have HSET := Lib.hid hset
      have d0' : wr.cell? ⟨g, k * 2, none⟩ = some (.int .i64 (m : Int)) := by rw [← hm, hfe]; exact d0
      have hm0 : ¬ ((m : Int) < 0) := by omega
      have hmnI : ¬ ((n : Int) ≤ (m : Int)) := by omega
      have hmn1 : (m : Int) < (n : Int) := by omega
      cases tog with
      | false =>
        clear hdr hnot hK hset d0 d1 hm hfe hfk HK
        go_wp2_with (fail)
        go_roundw
        case rel => exact ⟨k + 1, HLT.out, by go_num, HSET⟩
        case measure => have := HLT.out; simp [intOf]; omega
      | true =>
        obtain ⟨s, hs⟩ := HTG.out rfl
        have h0l : 0 < A.length := by omega
        obtain ⟨g5, c5, hv5, q0, q1⟩ := kRows_told hK h0l
        injection hv5 with hv5 _ hv6
        injection hv5 with hv5
        injection hv5 with hv5
        subst hv5
        have q0' : wr.cell? ⟨g, 0, none⟩ = some (.int .i64 (s : Int)) := by
          rw [hs 0 h0l] at q0
          exact q0
        have hmk : (m : Int) = (s : Int) + (k : Int) := by
          have := hs k hlt
          rw [← hfe, hm] at this
          rw [this]
          push_cast
          rfl
        have hb : ((m : Int) == (s : Int) + (k : Int)) = true := by rw [hmk]; simp
        have hs9 : s ≤ 100000 := by omega
        clear hdr hnot hK hset d0 d1 hm hfe hfk HK hs q0 q1 hmk hv6
        go_wp2_with (fail)
        go_roundw
        case rel => exact ⟨k + 1, HLT.out, by go_num, HSET⟩
        case measure => have := HLT.out; simp [intOf]; omega
    · obtain rfl : k = A.length := by omega
      have hK := HK.out
      rw [List.drop_of_length_le (by unfold fr; rw [List.length_map]; exact Nat.le_refl _), List.nil_append] at hK
      obtain ⟨ct, ft⟩ := kRows_t hK
      have HF := Lib.hid (kRows_putT hK (T - (A.length : Int)))
      obtain ⟨ht1, ht2⟩ := HTT.out
      clear hK HK hlt hk
      go_wp2_with (fail)
      go_ret
      exact ⟨rfl, HF.out⟩
end
end Go.Proofs.Ytagnipkannogoaa
