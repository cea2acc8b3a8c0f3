/-
  buddy: how many frames are free; Most of a node.
-/
import Derived.Test.YtilcdnkjfbkpnaaBuMost
import Derived.Test.YtilcdnkjfbkpnaaBuGive
namespace Go.Proofs.Ytilcdnkjfbkpnaa
open Go.RowKit Go

/-- A load of a whole by its run. -/
theorem wpList_load_run {P : Program} {ops : Array Oper} {rest : List Oper} {o : Oper} {a : Act} {w : World} {Q : Exit → Act → World → Prop} (hgd : o.guard = none) (ty : TypeId) (x : Operand) (ho : o.op = .load ty x)
    {p : Addr} (hx : a.eval x = .pointer (some p)) {v : Value} (hr : (loadVar ty p).run P w = .ok v w) (h : wpList P ops Q rest (a.put o.dst v) w) : wpList P ops Q (o :: rest) a w :=
  wpList_plain hgd fun _ hK => by
    unfold Oper.wp execOp
    simp only [ho, hx, Instr.loadAt, Instr.sureAddr, Sem.run_bind, Sem.run_pure, Result.andThen_ok, hr]
    exact hK _ _ h

/-- So many frames. -/
def freeT : List (Int × Int) → Nat
  | [] => 0
  | p :: r => 2 ^ p.2.toNat + freeT r
theorem freeT_append : ∀ L M : List (Int × Int), freeT (L ++ M) = freeT L + freeT M
  | [], M => by simp [freeT]
  | p :: r, M => by rw [List.cons_append, freeT, freeT, freeT_append r M, Nat.add_assoc]
def cntO (L : List (Int × Int)) (k : Nat) : Nat := (L.filter fun p => p.2 == (k : Int)).length
def freeU (L : List (Int × Int)) (k : Nat) : Nat := freeT (L.filter fun p => decide (p.2 < (k : Int)))
theorem freeU_next : ∀ (L : List (Int × Int)) (k : Nat), (∀ p ∈ L, ∃ a o : Nat, p = ((a : Int), (o : Int))) → freeU L (k + 1) = freeU L k + cntO L k * 2 ^ k
  | [], k, _ => by simp [freeU, cntO, freeT]
  | p :: r, k, h => by
    have ih := freeU_next r k (fun q hq => h q (List.mem_cons_of_mem _ hq))
    obtain ⟨a, o, rfl⟩ := h p List.mem_cons_self
    unfold freeU cntO at *
    by_cases e : o = k
    · subst e
      have h1 : decide ((o : Int) < ((o + 1 : Nat) : Int)) = true := decide_eq_true (by omega)
      have h2 : decide ((o : Int) < (o : Int)) = false := decide_eq_false (by omega)
      have h3 : ((o : Int) == (o : Int)) = true := by simp
      simp only [List.filter_cons, h1, h2, h3, if_true, Bool.false_eq_true, if_false, freeT, List.length_cons, Int.toNat_natCast]
      rw [ih, Nat.add_mul, Nat.one_mul]
      omega
    · have h3 : ((o : Int) == (k : Int)) = false := beq_false_of_ne (by omega)
      by_cases hlt : o < k
      · have h1 : decide ((o : Int) < ((k + 1 : Nat) : Int)) = true := decide_eq_true (by omega)
        have h2 : decide ((o : Int) < (k : Int)) = true := decide_eq_true (by omega)
        simp only [List.filter_cons, h1, h2, h3, if_true, Bool.false_eq_true, if_false, freeT]
        rw [ih]
        omega
      · have h1 : decide ((o : Int) < ((k + 1 : Nat) : Int)) = false := decide_eq_false (by omega)
        have h2 : decide ((o : Int) < (k : Int)) = false := decide_eq_false (by omega)
        simp only [List.filter_cons, h1, h2, h3, Bool.false_eq_true, if_false]
        rw [ih]
theorem freeU_all {L : List (Int × Int)} (h : ∀ p ∈ L, ∃ a o : Nat, p = ((a : Int), (o : Int)) ∧ o ≤ 10) : freeU L 11 = freeT L := by
  unfold freeU
  rw [List.filter_eq_self.2]
  intro p hp
  obtain ⟨a, o, rfl, ho⟩ := h p hp
  exact decide_eq_true (show (o : Int) < ((11 : Nat) : Int) by omega)
theorem rising_nodup {L : List (Int × Int)} (h : Rising L) : L.Nodup := h.imp fun {p q} hpq e => by subst e; omega
/-- Of the keys of a map, so many. -/
theorem cnt_keys {L : List (Int × Int)} (hR : Rising L) {k : Nat} {ls : List Int} (h1 : ls.Nodup) (h2 : ∀ x, x ∈ ls ↔ (frL L k x).isSome = true) : ls.length = cntO L k := by
  have hp : ls.Perm ((L.filter fun p => p.2 == (k : Int)).map (·.1)) := by
    refine (List.perm_ext_iff_of_nodup h1 ?_).2 fun x => ?_
    · exact List.Pairwise.map _ (fun {p q} h e => by
        have h : p.1 < q.1 := h
        omega) (List.Pairwise.filter _ hR)
    · rw [h2 x, frL_some, List.mem_map]
      constructor
      · intro h
        exact ⟨_, List.mem_filter.2 ⟨h, by simp⟩, rfl⟩
      · rintro ⟨⟨y, o⟩, h, rfl⟩
        obtain ⟨h3, h4⟩ := List.mem_filter.1 h
        have h4 : o = (k : Int) := by simpa using h4
        subst h4
        exact h3
  rw [hp.length_eq, List.length_map]; rfl

section
variable {w : World} {d n : Nat} {mb : Nat → Nat} {tb : Nat} {L T : List (Int × Int)}
/-- The array of its maps, as a value. -/
theorem load_maps (N : NodeAt w d n mb tb L T) : ∃ A : Array Value, (loadVar 46 ⟨d, 1, none⟩).run Try.prog w = .ok (.agg A) w ∧ A.size = 11 ∧ ∀ i, i < 11 → A[i]? = some (.map (some (mb i))) := by
  refine ⟨((List.range 11).map fun i => Value.map (some (mb i))).toArray, run_loadVar_mid (P := Try.prog) w d 1 46 _ _ (fun j v hj => ?_) Try.underlying46 rfl (by
    rw [List.length_map, List.length_range]; kernel_rfl), by simp, fun i hi => by simp [hi]⟩
  have hj2 : j < 11 := by have := (List.getElem?_eq_some_iff.1 hj).1; simpa using this
  rw [List.getElem?_map, List.getElem?_range hj2] at hj
  simp at hj
  subst hj
  exact N.cf hj2
theorem index_maps {A : Array Value} {k : Nat} {v : Value} (hk : (k : Int) < 11) (h : A[k]? = some v) (W : World) : (Instr.index 46 (.agg A) (.int .i64 k)).run Try.prog W = .ok v W := by
  simp [Instr.index, asIntOf, run_underlying Try.underlying46, part, h, go_sem, Result.andThen]
  intro h2
  omega
set_option maxRecDepth 100000 in
set_option maxHeartbeats 1000000 in
theorem free_any (N : NodeAt w d n mb tb L T) (I : Inv n L T) :
    Calls Try.prog 21 #[.pointer (some ⟨d, 0, none⟩)] w fun e w' => e = .returned (.int .i64 (freeT L)) ∧ w = w' := by
  obtain ⟨A, hA, hAs, hAi⟩ := load_maps N
  have HN := Lib.hid N
  have HA := Lib.hid hA
  have HAI := Lib.hid hAi
  clear hA hAi
  go_enter Try.func21, Try.ntmps21
  go_wp2_with (refine wpList_load_run rfl 46 _ rfl rfl HA.out ?_)
  go_loop [3, 12] (fun t i => ∃ k acc : Nat, t = .int .i64 acc ∧ i = .int .i64 k ∧ k ≤ 11 ∧ acc ≤ k * 200000 ∧ Hid (acc = freeU L k)) (fun _ i => 11 - (intOf i).toNat)
  case atStart => exact ⟨0, 0, rfl, rfl, by decide, by decide, by
    unfold freeU
    rw [List.filter_eq_nil_iff.2]
    · rfl
    · intro p hp
      have := (I.nat p hp)
      obtain ⟨a, o, rfl⟩ := this
      simp⟩
  case round =>
    obtain ⟨k, acc, rfl, rfl, hk, hacc, HE⟩ := hrel
    by_cases hlt : k < 11
    · have hAk := HAI.out k hlt
      have hF := HN.out.free k hlt
      have hlt2 : (k : Int) < 11 := by omega
      have hix := index_maps hlt2 hAk
      have hcb : cntO L k ≤ 128 := by
        obtain ⟨l, h1, h2, h3⟩ := hF.count (m := 128) (fun x hx => HN.out.bnd _ (frL_some.1 hx))
        rw [← cnt_keys I.ris h1 h2]
        exact h3
      obtain ⟨p, hp⟩ : ∃ p, 2 ^ k = p := ⟨_, rfl⟩
      have hp2 := two_pow_small (k := k) (by omega)
      rw [hp] at hp2
      obtain ⟨p1, p2⟩ := hp2
      have HP := Lib.hid hp
      have hmul : cntO L k * p ≤ 131072 := Nat.mul_le_mul hcb p2
      have HE2 := Lib.hid (show acc + cntO L k * p = freeU L (k + 1) by rw [freeU_next L k I.nat, ← HE.out, hp])
      have HCK := Lib.hid (fun (ls : List Int) (h1 : ls.Nodup) (h2 : ∀ x, x ∈ ls ↔ (frL L k x).isSome = true) => cnt_keys I.ris h1 h2)
      generalize cntO L k = c at *
      clear hp HE
      go_wp2_with (refine wpList_len_fmap rfl _ _ rfl 3 76 Try.underlying45 EU (mb k) (frL L k) rfl hF ?_; intro ls hl1 hl2; rw [HCK.out ls hl1 hl2]; clear hl1 hl2)
      refine (size_of (k := k) rfl (by omega) HP.out _).mono ?_
      rintro e w' ⟨rfl, rfl⟩
      have hcast : ((c : Int) * (p : Int)) = ((c * p : Nat) : Int) := (Int.natCast_mul c p).symm
      generalize hcp : c * p = q at *
      go_wp2_with (fail)
      refine ⟨⟨k + 1, acc + q, by go_num, by go_num, by omega, by omega, HE2⟩, ?_⟩
      simp [intOf]; omega
    · obtain rfl : k = 11 := by omega
      rw [show ((11 : Nat) : Int) = 11 from rfl]
      have HF := Lib.hid (show acc = freeT L by rw [HE.out, freeU_all I.ten])
      go_wp2_with (fail)
      go_ret
      exact ⟨by rw [← HF.out]; rfl, rfl⟩
/-- The greatest order of a free block. -/
def MstL (L : List (Int × Int)) (x : Int) : Prop := MstE (fun o => ∃ y, (y, (o : Int)) ∈ L) x
theorem most6_any (N : NodeAt w d n mb tb L T) :
    Calls Try.prog 22 #[.pointer (some ⟨d, 0, none⟩)] w fun e w' => (∃ x, e = .returned (.int .i64 x) ∧ MstL L x) ∧ Below w.heap.size w w' :=
  callsIn_wide.1 (most_in 3 (Nat.le_refl _) d (fun i => .map (some (mb i))) _ w (fun i hi => N.cf hi) (fun i hi => .inr ⟨mb i, frL L i, rfl, (N.free i hi).lt, N.free i hi, by
    constructor
    · rintro ⟨y, hy⟩; exact ⟨y, frL_some.2 hy⟩
    · rintro ⟨y, hy⟩; exact ⟨y, frL_some.1 hy⟩⟩))
theorem mst_one {L : List (Int × Int)} {x y : Int} (h1 : MstL L x) (h2 : MstL L y) : x = y := by
  rcases h1 with ⟨rfl, h1⟩ | ⟨o, rfl, ho, hE, h1⟩
  · rcases h2 with ⟨rfl, _⟩ | ⟨o, rfl, ho, hE, _⟩
    · rfl
    · exact absurd hE (h1 o ho)
  · rcases h2 with ⟨rfl, h2⟩ | ⟨p, rfl, hp, hE2, h2⟩
    · exact absurd hE (h2 o ho)
    · by_cases hlt : o < p
      · exact absurd hE2 (h1 p hp hlt)
      · by_cases hlt2 : p < o
        · exact absurd hE (h2 o ho hlt2)
        · have : o = p := by omega
          rw [this]
end
end Go.Proofs.Ytilcdnkjfbkpnaa
