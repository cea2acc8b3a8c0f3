/-
  buddy: how many frames are free, as blocks come and go; a node is told by what is taken. Pure.
-/
import Derived.Test.YtilcdnkjfbkpnaaBuFree
namespace Go.Proofs.Ytilcdnkjfbkpnaa

theorem freeT_perm {L M : List (Int × Int)} (h : L.Perm M) : freeT L = freeT M := by
  induction h with
  | nil => rfl
  | cons x _ ih => show _ + _ = _ + _; rw [ih]
  | swap x y l => show _ + (_ + _) = _ + (_ + _); omega
  | trans _ _ h1 h2 => exact h1.trans h2
theorem ins_perm (x : Int × Int) : ∀ L : List (Int × Int), (insL x L).Perm (x :: L)
  | [] => List.Perm.refl _
  | y :: r => by
    unfold insL
    split
    · exact List.Perm.refl _
    · exact ((ins_perm x r).cons y).trans (List.Perm.swap x y r)
theorem freeT_put (L : List (Int × Int)) (x : Int × Int) : freeT (putL L x) = freeT L + 2 ^ x.2.toNat := by
  rw [putL_ins, freeT_perm (ins_perm x L)]
  show _ + _ = _ + _
  omega
theorem freeT_drop {L : List (Int × Int)} (h : L.Nodup) {x : Int × Int} (hx : x ∈ L) : freeT (dropL L x) + 2 ^ x.2.toNat = freeT L := by
  have e : dropL L x = L.erase x := by
    unfold dropL
    rw [h.erase_eq_filter]
    refine List.filter_congr fun y _ => ?_
    simp [bne]
  rw [e, freeT_perm (List.perm_cons_erase hx)]
  show _ + _ = _ + _
  omega
theorem freeT_split (high : Bool) (od : Nat) : ∀ (d : Nat) (L : List (Int × Int)) (x : Int), freeT (splitL high od d L x).1 + 2 ^ od = freeT L + 2 ^ (od + d)
  | 0, L, x => rfl
  | d + 1, L, x => by
    have hp : 2 ^ (od + (d + 1)) = 2 ^ (od + d) + 2 ^ (od + d) := by rw [← Nat.add_assoc, Nat.pow_succ]; omega
    cases high with
    | true =>
      show freeT (if true = true then splitL true od d (putL L (x, ((od + d : Nat) : Int))) (x + ((2 ^ (od + d) : Nat) : Int)) else _).1 + _ = _
      rw [if_pos rfl, freeT_split true od d, freeT_put, hp]
      show _ + 2 ^ ((od + d : Nat) : Int).toNat + _ = _
      rw [Int.toNat_natCast]; omega
    | false =>
      show freeT (if false = true then _ else splitL false od d (putL L (x + ((2 ^ (od + d) : Nat) : Int), ((od + d : Nat) : Int))) x).1 + _ = _
      rw [if_neg (by decide), freeT_split false od d, freeT_put, hp]
      show _ + 2 ^ ((od + d : Nat) : Int).toNat + _ = _
      rw [Int.toNat_natCast]; omega
/-- Two lists by rising numbers that have the same are the same. -/
theorem rising_eq : ∀ {L M : List (Int × Int)}, Rising L → Rising M → (∀ p, p ∈ L ↔ p ∈ M) → L = M
  | [], [], _, _, _ => rfl
  | [], y :: _, _, _, h => absurd ((h y).2 List.mem_cons_self) List.not_mem_nil
  | x :: _, [], _, _, h => absurd ((h x).1 List.mem_cons_self) List.not_mem_nil
  | x :: r, y :: s, h1, h2, h => by
    obtain ⟨a1, a2⟩ := List.pairwise_cons.1 h1
    obtain ⟨b1, b2⟩ := List.pairwise_cons.1 h2
    have e : x = y := by
      rcases List.mem_cons.1 ((h x).1 List.mem_cons_self) with e | hx
      · exact e
      · rcases List.mem_cons.1 ((h y).2 List.mem_cons_self) with e | hy
        · exact e.symm
        · have := b1 x hx
          have := a1 y hy
          omega
    subst e
    congr 1
    refine rising_eq a2 b2 fun p => ?_
    constructor
    · intro hp
      rcases List.mem_cons.1 ((h p).1 (List.mem_cons_of_mem _ hp)) with e | hq
      · have := a1 p hp
        subst e; omega
      · exact hq
    · intro hp
      rcases List.mem_cons.1 ((h p).2 (List.mem_cons_of_mem _ hp)) with e | hq
      · have := b1 p hp
        subst e; omega
      · exact hq
section
variable {n : Nat} {L T : List (Int × Int)}
/-- What is taken tells what is free. -/
theorem Inv.unique (I : Inv n L T) {M U : List (Int × Int)} (J : Inv n M U) (h : ∀ o a, memL T o a ↔ memL U o a) : L = M := by
  refine rising_eq I.ris J.ris fun p => ?_
  have hu := I.stk.unique J.stk h
  constructor
  · intro hp
    obtain ⟨a, o, rfl⟩ := I.nat p hp
    exact (hu o a).1 hp
  · intro hp
    obtain ⟨a, o, rfl⟩ := J.nat p hp
    exact (hu o a).2 hp
theorem dropL_back {y o : Int} (h : tkL T y = none) : dropL (T ++ [(y, o)]) (y, o) = T := by
  unfold dropL
  rw [List.filter_append, List.filter_eq_self.2, List.filter_cons_of_neg (by simp), List.filter_nil, List.append_nil]
  intro p hp
  have : p ≠ (y, o) := fun e => by subst e; exact tkL_none.1 h o hp
  simpa using this
/-- Take, and give back at once. -/
theorem take_back (I : Inv n L T) {od : Nat} (ho : od ≤ 10) (high : Bool) {x : Int} (hx : MstL L x) :
    ((od : Int) ≤ x ∧ ∃ (y : Nat) (M : List (Int × Int)), takeS L T (od : Int) high = ((y : Int), 0, M, T ++ [((y : Int), (od : Int))]) ∧ freeT M + 2 ^ od = freeT L ∧ giveS M (T ++ [((y : Int), (od : Int))]) (y : Int) (od : Int) = (0, L, T) ∧ Inv n M (T ++ [((y : Int), (od : Int))]) ∧ y < n)
    ∨ (x < (od : Int) ∧ takeS L T (od : Int) high = (0, 6, L, T)) := by
  rcases pick_or I od high with ⟨a, q, hp⟩ | hp
  · obtain ⟨y, h1, h2, J, hyn, hnone, hoq, hq, _, _⟩ := inv_take I ho hp
    refine .inl ⟨?_, y, _, h2, ?_, ?_, J, hyn⟩
    · rcases hx with ⟨rfl, h⟩ | ⟨p, rfl, hp2, _, h⟩
      · exact absurd ⟨(a : Int), hp.1⟩ (h q (by omega))
      · by_cases hlt : p < q
        · exact absurd ⟨(a : Int), hp.1⟩ (h q (by omega) hlt)
        · omega
    · rw [freeT_split, show od + (q - od) = q by omega]
      have := freeT_drop (rising_nodup I.ris) hp.1
      simpa using this
    · have hm : ((y : Int), (od : Int)) ∈ T ++ [((y : Int), (od : Int))] := by simp
      obtain ⟨K, _, _, e⟩ := J.give hm
      rw [e, dropL_back hnone]
      rw [dropL_back hnone] at K
      rw [K.unique I (fun o a => Iff.rfl)]
  · refine .inr ⟨?_, ?_⟩
    · rcases hx with ⟨rfl, _⟩ | ⟨p, rfl, _, ⟨y, hy⟩, _⟩
      · omega
      · have : ¬ (od : Int) ≤ (p : Int) := hp _ hy
        omega
    · unfold takeS
      rw [if_pos ⟨by omega, by omega⟩, pick_none hp, if_pos (by decide)]
theorem freeT_bound (I : Inv n L T) : freeT L ≤ 300000 := by
  have h : ∀ M : List (Int × Int), (∀ p ∈ M, ∃ a o : Nat, p = ((a : Int), (o : Int)) ∧ o ≤ 10) → freeT M ≤ M.length * 1024 := by
    intro M
    induction M with
    | nil => intro _; exact Nat.zero_le _
    | cons p r ih =>
      intro h
      obtain ⟨a, o, rfl, ho⟩ := h p List.mem_cons_self
      have := ih (fun q hq => h q (List.mem_cons_of_mem _ hq))
      have h2 := (two_pow_small ho).2
      show 2 ^ (o : Int).toNat + freeT r ≤ (r.length + 1) * 1024
      rw [Int.toNat_natCast]; omega
  have h1 := h L I.ten
  have h2 : L.length ≤ 128 := by
    have := nodup_short 128 (L.map (·.1)) (List.Pairwise.map _ (fun {p q} h e => by
      have h : p.1 < q.1 := h
      omega) I.ris) (fun x hx => by
      obtain ⟨p, hp, rfl⟩ := List.mem_map.1 hx
      obtain ⟨a, o, rfl⟩ := I.nat p hp
      have h3 := (I.stk.al o a (.inl hp)).2.2
      have hpw := Nat.one_le_two_pow (n := o)
      have := I.n2
      exact ⟨by show (0 : Int) ≤ (a : Int); omega, by show (a : Int) < ((128 : Nat) : Int); omega⟩)
    simpa using this
  omega
end
end Go.Proofs.Ytilcdnkjfbkpnaa
