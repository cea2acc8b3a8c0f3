/-
  CacheKeeps, pure: slabs of the frames a i + b; what is out, and each object once.
-/
import Derived.Test.YtlimbcpghfddkaaCaLawColours
namespace Go.Proofs.Ytlimbcpghfddkaa
open Go.RowKit Go Go.Maps

/-- Slabs of the frames a i + b, one behind the other. -/
def lnA (a b sz : Nat) : Nat → Ca
  | 0 => ⟨sz, 0, []⟩
  | k + 1 => (lnA a b sz k).added ((a * k + b : Nat) : Int) (fun _ => 0)
section
variable {a b sz : Nat}
theorem lnA_succ (k : Nat) : lnA a b sz (k + 1) = (lnA a b sz k).added ((a * k + b : Nat) : Int) (fun _ => 0) := rfl
theorem lnA_sz : ∀ k, (lnA a b sz k).sz = sz
  | 0 => rfl
  | k + 1 => lnA_sz k
theorem lnA_len : ∀ k, (lnA a b sz k).L.length = k
  | 0 => rfl
  | k + 1 => by
    show (insL (lnA a b sz k).L _).length = k + 1
    rw [insL_len, lnA_len k]
theorem lnA_fr : ∀ k, ∀ p ∈ (lnA a b sz k).L, ∃ i, i < k ∧ p.fr = ((a * i + b : Nat) : Int)
  | 0 => fun _ h => absurd h List.not_mem_nil
  | k + 1 => fun p hp => by
    rcases mem_insL.1 hp with h | h
    · exact ⟨k, Nat.lt_succ_self k, by rw [h]⟩
    · obtain ⟨i, hi, e⟩ := lnA_fr k p h
      exact ⟨i, by omega, e⟩
theorem lnA_new (ha : 1 ≤ a) (k : Nat) : findL (lnA a b sz k).L ((a * k + b : Nat) : Int) = none := findL_no fun p hp e => by
  obtain ⟨i, hi, e2⟩ := lnA_fr k p hp
  have h1 : a * i + b = a * k + b := by omega
  have h2 : a * (i + 1) ≤ a * k := Nat.mul_le_mul_left a hi
  rw [Nat.mul_add] at h2
  omega
theorem lnA_I (ha : 1 ≤ a) (h : mayC sz (0 : Nat) = true) : ∀ k, CaI (lnA a b sz k)
  | 0 => ⟨h, List.Pairwise.nil, fun _ h => absurd h List.not_mem_nil, fun _ h => absurd h List.not_mem_nil, fun _ h => absurd h List.not_mem_nil⟩
  | k + 1 => (lnA_I ha h k).added (by omega) (lnA_new ha k) _
theorem lnA_slab (ha : 1 ≤ a) (h : mayC sz (0 : Nat) = true) : ∀ k, ∀ p ∈ (lnA a b sz k).L, p.S.n = 256 / sz ∧ p.S.ch.length = p.S.n ∧ (∀ j, p.S.tu j = 0) ∧ ∀ j, p.S.out j = false
  | 0 => fun _ h => absurd h List.not_mem_nil
  | k + 1 => fun p hp => by
    rcases mem_insL.1 hp with e | e
    · subst e
      have hI := (lnA_I (b := b) ha h k).may
      rw [lnA_sz] at hI
      obtain ⟨_, _, _, _, _, h6⟩ := may_parts hI
      have h7 : (Sl.new (lnA a b sz k).sz (lnA a b sz k).co fun _ => 0).n = 256 / sz := by
        show (256 - (lnA a b sz k).co) / (lnA a b sz k).sz = _
        rw [lnA_sz]
        exact count_col h h6
      refine ⟨h7, ?_, fun _ => rfl, fun _ => rfl⟩
      show (List.range ((256 - (lnA a b sz k).co) / (lnA a b sz k).sz)).length = (256 - (lnA a b sz k).co) / (lnA a b sz k).sz
      rw [List.length_range]
    · exact lnA_slab ha h k p e
end
/-- How many objects are free. -/
def sumF (L : List Pl) : Nat := (L.map fun p => p.S.ch.length).sum
theorem sumF_set {L : List Pl} (hr : Rise L) {x : Int} {S T : Sl} (h : findL L x = some S) : sumF (setL L x T) + S.ch.length = sumF L + T.ch.length := by
  induction L with
  | nil => cases h
  | cons p r ih =>
    unfold findL at h
    by_cases e : p.fr = x
    · rw [if_pos e] at h
      injection h with h
      have h2 : setL r x T = r := by
        unfold setL
        refine (List.map_congr_left fun q hq => ?_).trans (List.map_id r)
        have := (List.pairwise_cons.1 hr).1 q hq
        rw [if_neg (by omega)]
        rfl
      show ((if p.fr = x then (⟨p.fr, T⟩ : Pl) else p).S.ch.length + sumF (setL r x T)) + _ = (p.S.ch.length + sumF r) + _
      rw [if_pos e, h2, h]
      show T.ch.length + sumF r + S.ch.length = S.ch.length + sumF r + T.ch.length
      omega
    · rw [if_neg e] at h
      have := ih hr.tail h
      show ((if p.fr = x then (⟨p.fr, T⟩ : Pl) else p).S.ch.length + sumF (setL r x T)) + _ = (p.S.ch.length + sumF r) + _
      rw [if_neg e]
      omega
theorem sumF_none {L : List Pl} (h : ∀ p ∈ L, p.S.ch.length = 0) : sumF L = 0 := by
  induction L with
  | nil => rfl
  | cons p r ih =>
    show p.S.ch.length + sumF r = 0
    rw [h p List.mem_cons_self, ih fun q hq => h q (List.mem_cons_of_mem _ hq)]
theorem sumF_le {L : List Pl} {q : Nat} (h : ∀ p ∈ L, p.S.ch.length ≤ q) : sumF L ≤ L.length * q := by
  induction L with
  | nil => exact Nat.zero_le _
  | cons p r ih =>
    show p.S.ch.length + sumF r ≤ (r.length + 1) * q
    have h1 := h p List.mem_cons_self
    have h2 := ih fun q hq => h q (List.mem_cons_of_mem _ hq)
    rw [Nat.add_mul]
    omega
theorem sumF_all {L : List Pl} {q : Nat} (h : ∀ p ∈ L, p.S.ch.length ≤ q) (hs : sumF L = L.length * q) : ∀ p ∈ L, p.S.ch.length = q := by
  induction L with
  | nil => exact fun _ h => absurd h List.not_mem_nil
  | cons p r ih =>
    have h1 := h p List.mem_cons_self
    have h2 := sumF_le fun q hq => h q (List.mem_cons_of_mem _ hq)
    have h3 : p.S.ch.length + sumF r = (r.length + 1) * q := hs
    rw [Nat.add_mul] at h3
    intro x hx
    rcases List.mem_cons.1 hx with e | e
    · rw [e]
      omega
    · exact ih (fun q hq => h q (List.mem_cons_of_mem _ hq)) (by omega) x e
theorem sumF_full {L : List Pl} {q : Nat} (h : ∀ p ∈ L, p.S.ch.length = q) : sumF L = L.length * q := by
  induction L with
  | nil => simp [sumF]
  | cons p r ih =>
    show p.S.ch.length + sumF r = (r.length + 1) * q
    rw [h p List.mem_cons_self, ih fun q hq => h q (List.mem_cons_of_mem _ hq), Nat.add_mul]
    omega
theorem pick_none_of {L : List Pl} (h : pickL L = none) : ∀ p ∈ L, p.S.ch.length = 0 := fun p hp => by
  unfold pickL at h
  rw [Option.or_eq_none_iff] at h
  have h1 := List.find?_eq_none.1 h.1 p hp
  have h2 := List.find?_eq_none.1 h.2 p hp
  unfold Pl.prt at h1
  unfold Pl.emp at h2
  simp at h1 h2
  omega
/-- What is out, each object once. -/
structure KpI (A : Ca) (n q : Nat) (out : List (Int × Nat)) : Prop where
  len : A.L.length = n
  slab : ∀ p ∈ A.L, p.S.n = q ∧ ∀ j, p.S.tu j = 0
  nd : out.Nodup
  mem : ∀ x k, (x, k) ∈ out ↔ ∃ S, findL A.L x = some S ∧ k < S.n ∧ S.out k = true
  sum : sumF A.L + out.length = n * q
theorem KpI.first {a b sz : Nat} (ha : 1 ≤ a) (h : mayC sz (0 : Nat) = true) (n : Nat) : KpI (lnA a b sz n) n (256 / sz) [] := by
  refine ⟨lnA_len n, fun p hp => ⟨(lnA_slab ha h n p hp).1, (lnA_slab ha h n p hp).2.2.1⟩, List.nodup_nil, fun x k => ⟨fun h => absurd h List.not_mem_nil, ?_⟩, ?_⟩
  · rintro ⟨S, h1, _, h3⟩
    have := (lnA_slab ha h n _ (findL_mem h1)).2.2.2 k
    dsimp only at this
    rw [h3] at this
    cases this
  · rw [sumF_full (q := 256 / sz) (fun p hp => by rw [(lnA_slab ha h n p hp).2.1]; exact (lnA_slab ha h n p hp).1), lnA_len]
    rfl
section
variable {A : Ca} {n q : Nat} {out : List (Int × Nat)}
theorem KpI.none (P : KpI A n q out) (h : pickL A.L = none) : out.length = n * q := by
  have := P.sum
  rw [sumF_none (pick_none_of h)] at this
  omega
theorem take_full {S : Sl} (hf : 0 < S.ch.length) (hI : SlI S) : ∃ k : Nat, S.take.1 = (k : Int) ∧ S.take.2.2.ch.length + 1 = S.ch.length ∧ S.take.2.2.n = S.n ∧ k < S.n ∧ S.out k = false ∧ S.take.2.2.out = updC S.out k true ∧ S.take.2.2.tu = S.tu := by
  unfold Sl.take
  cases e : S.ch with
  | nil => rw [e] at hf; exact absurd hf (Nat.lt_irrefl _)
  | cons i r =>
    have hi := hI.lt i (by rw [e]; simp)
    refine ⟨i, rfl, ?_, rfl, hi, ?_, rfl, rfl⟩
    · simp
    · cases h : S.out i with
      | false => rfl
      | true => exact absurd (by rw [e]; simp) ((hI.out i hi).1 h)
/-- One more is out. -/
theorem KpI.take (P : KpI A n q out) (I : CaI A) {p : Pl} (hp : pickL A.L = some p) : ∃ k : Nat, A.take = (p.fr, (k : Int), 0, A.turned p.fr p.S.take.2.2) ∧ (p.fr, k) ∉ out ∧ k < 32 ∧ KpI (A.turned p.fr p.S.take.2.2) n q (out ++ [(p.fr, k)]) := by
  have hm := pick_mem hp
  have hI := I.inv p hm
  obtain ⟨k, h1, h2, h3, h4, h5, h6, h7⟩ := take_full (pick_free hp hI) hI
  have hfind := findL_of I.rise hm
  have hno : (p.fr, k) ∉ out := fun h => by
    obtain ⟨S, g1, _, g3⟩ := (P.mem _ _).1 h
    rw [hfind] at g1
    injection g1 with g1
    rw [← g1, h5] at g3
    cases g3
  refine ⟨k, by unfold Ca.take; rw [hp, ← h1], hno, by have := hI.parts.2.2.2.1; omega, ⟨?_, fun r hr => ?_, ?_, fun x j => ?_, ?_⟩⟩
  · show (setL _ _ _).length = n
    rw [setL_len]
    exact P.len
  · rcases mem_setL hr with ⟨h, _⟩ | ⟨h, _⟩
    · exact P.slab r h
    · rw [h]
      refine ⟨by rw [show (⟨p.fr, p.S.take.2.2⟩ : Pl).S = p.S.take.2.2 from rfl, h3]; exact (P.slab p hm).1, fun j => ?_⟩
      show p.S.take.2.2.tu j = 0
      rw [h7]
      exact (P.slab p hm).2 j
  · rw [List.nodup_append]
    refine ⟨P.nd, List.nodup_cons.2 ⟨List.not_mem_nil, List.nodup_nil⟩, fun x hx y hy e => ?_⟩
    rw [List.mem_singleton] at hy
    rw [e, hy] at hx
    exact hno hx
  · show _ ↔ ∃ S, findL (setL A.L p.fr p.S.take.2.2) x = some S ∧ _
    rw [List.mem_append, List.mem_singleton, P.mem x j, findL_set I.rise]
    by_cases e : x = p.fr
    · rw [if_pos e, e, hfind]
      constructor
      · rintro (⟨S, g1, g2, g3⟩ | g)
        · injection g1 with g1
          subst g1
          refine ⟨_, rfl, by rw [h3]; exact g2, ?_⟩
          rw [h6]
          unfold updC
          split
          · rfl
          · exact g3
        · injection g with _ g
          subst g
          refine ⟨_, rfl, by rw [h3]; exact h4, ?_⟩
          rw [h6]
          exact updC_same _ _ _
      · rintro ⟨S, g1, g2, g3⟩
        injection g1 with g1
        subst g1
        rw [h3] at g2
        rw [h6] at g3
        by_cases e2 : j = k
        · exact .inr (by rw [e2])
        · rw [updC_other _ e2] at g3
          exact .inl ⟨_, rfl, g2, g3⟩
    · rw [if_neg e]
      constructor
      · rintro (h | h)
        · exact h
        · injection h with h _
          exact absurd h e
      · exact fun h => .inl h
  · show sumF (setL A.L p.fr p.S.take.2.2) + _ = _
    have h8 := sumF_set I.rise (T := p.S.take.2.2) hfind
    have := P.sum
    rw [List.length_append, List.length_singleton]
    omega
theorem setL_self {L : List Pl} (hr : Rise L) {x : Int} {S : Sl} (h : findL L x = some S) : setL L x S = L := by
  unfold setL
  refine (List.map_congr_left fun q hq => ?_).trans (List.map_id L)
  by_cases e : q.fr = x
  · rw [if_pos e]
    have h2 := findL_of hr hq
    rw [e, h] at h2
    injection h2 with h2
    rw [h2]
    rfl
  · rw [if_neg e]
    rfl
/-- One of them is given back; given again it is refused. -/
theorem KpI.back (P : KpI A n q out) (I : CaI A) {h : Nat} (hh : h < out.length) : (A.give out[h].1 (out[h].2 : Nat)).1 = 0 ∧ ((A.give out[h].1 (out[h].2 : Nat)).2.give out[h].1 (out[h].2 : Nat)) = (8, (A.give out[h].1 (out[h].2 : Nat)).2) ∧ KpI (A.give out[h].1 (out[h].2 : Nat)).2 n q (out.eraseIdx h) := by
  have hm : out[h] ∈ out := List.getElem_mem hh
  have hnd := P.nd
  have hmem2 : ∀ y, y ∈ out.eraseIdx h ↔ y ∈ out ∧ y ≠ out[h] := fun y => by
    rw [List.mem_eraseIdx_iff_getElem]
    constructor
    · rintro ⟨i, hi, hne, rfl⟩
      refine ⟨List.getElem_mem _, fun e => ?_⟩
      have hnd2 := List.pairwise_iff_getElem.1 hnd
      rcases Nat.lt_or_gt_of_ne hne with h1 | h1
      · exact hnd2 i h hi hh h1 e
      · exact hnd2 h i hh hi h1 e.symm
    · rintro ⟨h1, h2⟩
      obtain ⟨i, hi, rfl⟩ := List.getElem_of_mem h1
      exact ⟨i, hi, fun e => h2 (by subst e; rfl), rfl⟩
  have hlen : (out.eraseIdx h).length + 1 = out.length := by
    rw [List.length_eraseIdx_of_lt hh]
    omega
  generalize hx : out[h] = y at *
  obtain ⟨x, k⟩ := y
  obtain ⟨S, g1, g2, g3⟩ := (P.mem x k).1 hm
  have hI := (I.find g1).1
  have ht := (P.slab _ (findL_mem g1)).2 k
  dsimp only at ht ⊢
  have hg : S.give k = (0, S.given k) := by
    unfold Sl.give
    rw [if_neg (by rw [has_nat.2 g2]; decide), if_neg (by rw [Int.toNat_natCast, g3]; decide), if_neg (by rw [Int.toNat_natCast]; exact fun h => h ht), Int.toNat_natCast]
  have hz : A.give x k = (0, A.turned x (S.given k)) := by
    unfold Ca.give
    rw [g1]
    dsimp only
    rw [hg]
  have hr2 := I.rise.set x (S.given k)
  have hf2 : findL (setL A.L x (S.given k)) x = some (S.given k) := by
    rw [findL_set I.rise, if_pos rfl, g1]
    rfl
  rw [hz]
  refine ⟨rfl, ?_, ⟨?_, fun r hr => ?_, hnd.sublist (List.eraseIdx_sublist _ _), fun z j => ?_, ?_⟩⟩
  · have hg2 : (S.given k).give k = (8, S.given k) := by
      unfold Sl.give
      rw [if_neg (by rw [show (S.given k).has (k : Int) = S.has (k : Int) from rfl, has_nat.2 g2]; decide), if_pos (by rw [Int.toNat_natCast]; exact updC_same _ _ _)]
    unfold Ca.give
    dsimp only [Ca.turned]
    rw [hf2]
    dsimp only
    rw [hg2]
    dsimp only
    rw [setL_self hr2 hf2]
  · show (setL _ _ _).length = n
    rw [setL_len]
    exact P.len
  · rcases mem_setL hr with ⟨h, _⟩ | ⟨h, _⟩
    · exact P.slab r h
    · rw [h]
      exact ⟨(P.slab _ (findL_mem g1)).1, (P.slab _ (findL_mem g1)).2⟩
  · rw [hmem2, P.mem]
    show _ ↔ ∃ T, findL (setL A.L x (S.given k)) z = some T ∧ _
    rw [findL_set I.rise]
    by_cases e : z = x
    · rw [if_pos e, e, g1]
      constructor
      · rintro ⟨⟨T, f1, f2, f3⟩, hne⟩
        injection f1 with f1
        subst f1
        refine ⟨_, rfl, f2, ?_⟩
        show updC S.out k false j = true
        rw [updC_other _ (fun e2 => hne (by rw [e2]))]
        exact f3
      · rintro ⟨T, f1, f2, f3⟩
        injection f1 with f1
        subst f1
        have f3 : updC S.out k false j = true := f3
        by_cases e2 : j = k
        · rw [e2, updC_same] at f3
          cases f3
        · rw [updC_other _ e2] at f3
          exact ⟨⟨_, rfl, f2, f3⟩, fun e3 => e2 (by injection e3)⟩
    · rw [if_neg e]
      exact ⟨fun h => h.1, fun h => ⟨h, fun e3 => e (by injection e3)⟩⟩
  · show sumF (setL A.L x (S.given k)) + _ = _
    have h8 := sumF_set I.rise (T := S.given k) g1
    have h9 : (S.given k).ch.length = S.ch.length + 1 := rfl
    have := P.sum
    omega
/-- With none out all are empty. -/
theorem KpI.empty (P : KpI A n q []) (I : CaI A) : ∀ p ∈ A.L, p.emp = true := fun p hp => by
  have h1 : ∀ p ∈ A.L, p.S.ch.length ≤ q := fun p hp => by
    have h2 := (I.inv p hp).len
    rw [(P.slab p hp).1] at h2
    exact h2
  have h3 := P.sum
  rw [List.length_nil, Nat.add_zero, ← P.len] at h3
  unfold Pl.emp
  rw [sumF_all h1 h3 p hp, (P.slab p hp).1]
  exact decide_eq_true rfl
end
theorem frs_all {L : List Pl} {f : Pl → Bool} (h : ∀ p ∈ L, f p = true) : frsL f L = L.map Pl.fr := by
  unfold frsL
  rw [List.filter_eq_self.2 h]
/-- The first of slabs that are empty is dropped. -/
theorem drop_first {A : Ca} {M : List Pl} (I : CaI A) {k : Nat} (hM : A.L = M.drop k) (hk : k < M.length) (he : ∀ p ∈ M, p.emp = true) : (A.drop M[k].fr).1 = 0 ∧ (A.drop M[k].fr).2.L = M.drop (k + 1) := by
  have e : A.L = M[k] :: M.drop (k + 1) := by rw [hM, List.drop_eq_getElem_cons hk]
  have hf : findL A.L M[k].fr = some M[k].S := findL_of I.rise (by rw [e]; exact List.mem_cons_self)
  have h1 := he M[k] (List.getElem_mem hk)
  unfold Pl.emp at h1
  unfold Ca.drop
  rw [hf]
  dsimp only
  rw [if_pos (of_decide_eq_true h1)]
  refine ⟨rfl, ?_⟩
  show cutL A.L M[k].fr = _
  have hr := I.rise
  rw [e] at hr ⊢
  exact (cutL_at hr (k := 0) (Nat.zero_lt_succ _)).trans (by simp)
/-- A cell of a row of ints. -/
theorem rowK_at {w : World} {base n c i : Nat} {a : Option Addr} {xs : List Value} (h : w.ownsRow base 3 1 (.slice a n c) n xs) (hi : i < n) : ∃ g, a = some ⟨g, 0, none⟩ ∧ w.cell? ⟨g, i, none⟩ = xs[i]? := by
  obtain ⟨hl, ⟨_, h0⟩ | ⟨g, cap, cur, e, _, hh, hnc, _, _, ht⟩⟩ := h
  · omega
  · injection e with e1 _ e3
    subst e1; subst e3
    refine ⟨g, rfl, ?_⟩
    rw [cell_of_row _ _ _ _ _ _ hh, ← ht, List.getElem?_take_of_lt (by omega)]
    simp
theorem intV_fr {L : List Pl} {i : Nat} (h : i < L.length) : (intV (L.map Pl.fr))[i]? = some (.int .i64 L[i].fr) := by
  unfold intV
  simp [h]
end Go.Proofs.Ytlimbcpghfddkaa
