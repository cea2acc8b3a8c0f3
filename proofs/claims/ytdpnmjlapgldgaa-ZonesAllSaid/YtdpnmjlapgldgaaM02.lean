/-
  Texts that this claim builds on, merged.
-/
import Derived.Test.YtdpnmjlapgldgaaM01
import Derived.Laws.AppendOwn
import Derived.OwnWalk
import Derived.Maps.OwnSet
import Derived.Maps.RangeWalk
import Derived.OrdersHeld
import Derived.Deep.RegionHeld3
import Derived.Laws.Shifts
namespace Go.Proofs.Ytdpnmjlapgldgaa
/-! The document's own answer: the nodes of all frames, one by one. -/
section
open Go.RowKit Go

/-- The nodes of the frames of the first k nodes. -/
def nodL (g : Nat → Int) : Nat → List Int
  | 0 => []
  | k + 1 => nodL g k ++ List.replicate (g (18 + k)).toNat (k : Int)
theorem frL_length (g : Nat → Int) : ∀ k, (∀ i, i < k → 0 ≤ g (18 + i)) → ((nodL g k).length : Int) = sumF g k
  | 0, _ => rfl
  | k + 1, h => by
    have h1 := frL_length g k (fun i hi => h i (by omega))
    have h2 := h k (by omega)
    simp only [nodL, List.length_append, List.length_replicate, sumF]
    omega

/-- What Frames leaves. -/
def FramesPost (l : List Int) (w : World) (e : Ending) (w' : World) : Prop :=
  ∃ v, e = .returned v ∧ w'.ownsRow w.heap.size 3 1 v l.length (l.map (Value.int .i64)) ∧ Below w.heap.size w w'

set_option maxRecDepth 100000 in
theorem frames_no (A : Array Value) (g : Nat → Int) (w : World) (hA : Cfg A g) (hm : mayB g = false) :
    Calls Try.prog 26 #[.agg A] w fun e w' => e = .returned (.slice none 0 0) ∧ Below w.heap.size w w' := by
  have C0 := CfgAt.new w hA
  have hB : Below w.heap.size w (w.alloc (.cells A 26)) := (Below.refl _ _).alloc (Nat.le_refl _) _
  have HA := Lib.hid hA
  have HM := Lib.hid hm
  clear hA hm
  go_enter Try.func26, Try.ntmps26
  go_wp2_with (fail)
  refine wp_loop_rounds 1 ?_
  rw [rounds_succ]
  go_wp2_with (refine wpList_load_cfg rfl _ rfl _ rfl C0 ?_)
  refine (refmay_any A g _ HA.out).mono ?_
  rintro e w1 ⟨rfl, hb⟩
  rw [HM.out]
  have hB1 := hB.trans (hb.mono hB.size)
  clear hb hB C0
  go_wp2_with (fail)
  go_ret
  exact ⟨rfl, hB1⟩

theorem kept_append {A : Array Value} {g : Nat → Int} {w wr w1 : World} {base n : Nat} {v : Value} {xs : List Value} {ob : Obj} {T : TypeId} (hown : wr.ownsRow base T 1 v n xs) (C : CfgAt wr w.heap.size A g) (hB : Below w.heap.size w wr) (hb : w.heap.size < base)
    (hg : (wr.alloc ob).grownBy w1 v.ownBlock) : CfgAt w1 w.heap.size A g ∧ Below w.heap.size w w1 := by
  have hr := (hown.alloc ob).lt
  refine ⟨⟨C.cfg, ?_⟩, (hB.alloc hB.size ob).grown hg (by simp; have := hB.size; omega) (fun k h => by have := hr k h; omega)⟩
  rw [hg.block w.heap.size (by simp; have := C.lt; omega) (fun e => by have := hr _ e.symm; omega), ((Below.refl wr.heap.size wr).alloc (Nat.le_refl _) ob).block _ C.lt]
  exact C.block

theorem infoIntF : (Try.prog.info? 3).map (fun i => (i.zero, i.size, i.bytes)) = some (some (.int .i64 0), 1, 8) := by kernel_rfl
theorem one_new (wr : World) (x : Value) (T : TypeId) : ∀ j u, [x][j]? = some u → (wr.alloc (.cells #[x] T)).cell? ((⟨wr.heap.size, 0, none⟩ : Addr).add j) = some u := by
  intro j u hj
  match j, hj with
  | 0, hj =>
    simp at hj; subst hj
    show (wr.alloc (.cells #[x] T)).cell? ⟨wr.heap.size, 0, none⟩ = _
    rw [cell_of_row _ _ _ _ _ _ (heap_alloc_new wr _)]; rfl

set_option maxRecDepth 100000 in
set_option maxHeartbeats 1000000 in
theorem refframes_yes (A : Array Value) (g : Nat → Int) (n : Nat) (w : World) (hA : Cfg A g) (hm : mayB g = true) (hn : g 0 = n) :
    Calls Try.prog 26 #[.agg A] w (FramesPost (nodL g n) w) := by
  obtain ⟨i0, hi, hz0, hz1, hz2⟩ := info_parts infoIntF
  have C0 := CfgAt.new w hA
  have hB : Below w.heap.size w (w.alloc (.cells A 26)) := (Below.refl _ _).alloc (Nat.le_refl _) _
  have G := (good_iff g).1 hm
  have hn8 : n ≤ 8 := by have := G.n2; omega
  have HL := Lib.hid (show ∀ k, k ≤ n → (nodL g k).length ≤ 1024 from fun k hk => by
    have h1 := frL_length g k (fun i hi => by have := G.frames i (by omega); omega)
    have h2 := sumF_bd g k (fun i hi => by have := G.frames i (by omega); omega)
    omega)
  have HG := Lib.hid G
  have HN := Lib.hid hn
  have HA := Lib.hid hA
  have HM := Lib.hid hm
  clear hA hm hn G
  go_enter Try.func26, Try.ntmps26
  go_wp2_with (fail)
  go_loopw [3, 4, 5] (fun v x _ wr => ∃ k : Nat, k ≤ n ∧ x = .int .i64 k ∧ Hid (wr.ownsRow (w.heap.size + 1) 3 1 v (nodL g k).length ((nodL g k).map (Value.int .i64))) ∧ CfgAt wr w.heap.size A g ∧ Below w.heap.size w wr) (fun _ x _ _ => n - (intOf x).toNat)
  case atStart => exact ⟨0, Nat.zero_le _, rfl, Lib.hid (World.ownsRow_nil _ _ _ _), C0, hB⟩
  case round =>
    clear C0 hB
    obtain ⟨k, hk, rfl, HO, C, hB⟩ := hrel
    go_wp2_with (refine wpList_load_cfg rfl _ rfl _ rfl C ?_)
    refine (refmay_any A g _ HA.out).mono ?_
    rintro e w1 ⟨rfl, hb⟩
    rw [HM.out]
    have C1 := C.later hb
    have hB1 := hB.trans (hb.mono hB.size)
    have HO1 := Lib.hid (owns_later HO.out hb)
    have c0 := C1.cell 0 (by decide)
    rw [HN.out] at c0
    clear hb hB C HO
    by_cases hlt : k < n
    · obtain ⟨f, hf⟩ := Int.eq_ofNat_of_zero_le (show 0 ≤ g (18 + k) by have := HG.out.frames k (by rw [HN.out]; omega); omega)
      have HS := Lib.hid (show nodL g (k + 1) = nodL g k ++ List.replicate f (k : Int) by show nodL g k ++ List.replicate (g (18 + k)).toNat (k : Int) = _; rw [hf]; rfl)
      have hf8 : f ≤ 128 := by have := HG.out.frames k (by rw [HN.out]; omega); omega
      have HF := Lib.hid hf
      have ik : (k : Int) < 8 := by omega
      clear hf
      go_wp2_with (fail)
      clear c0
      go_loopw [3, 5] (fun v x wr => ∃ j : Nat, j ≤ f ∧ x = .int .i64 j ∧ Hid (wr.ownsRow (w.heap.size + 1) 3 1 v (nodL g k ++ List.replicate j (k : Int)).length ((nodL g k ++ List.replicate j (k : Int)).map (Value.int .i64))) ∧ CfgAt wr w.heap.size A g ∧ Below w.heap.size w wr) (fun _ x _ => f - (intOf x).toNat)
      case atStart => exact ⟨0, Nat.zero_le _, rfl, by simpa using HO1, C1, hB1⟩
      case round =>
        clear C1 hB1 HO1
        obtain ⟨j, hj, rfl, HO, C, hB⟩ := hrel
        have ck := C.cell (18 + k) (by omega)
        rw [HF.out] at ck
        by_cases hlj : j < f
        · have HLN := Lib.hid (show (nodL g k ++ List.replicate j (k : Int)).length + 1 ≤ 1024 by
            have h1 := HL.out (k + 1) (by omega)
            rw [HS.out] at h1
            simp at h1 ⊢; omega)
          have hsz := hB.size
          go_wp2_with (at_builtin; refine wpList_append_own _ rfl _ _ 37 rfl (w.heap.size + 1) 3 i0 (.int .i64 0) 1 8 Try.underlying37 hi hz0 hz1 hz2 rfl (by decide) _ _ _ rfl (HO.out.alloc _) ⟨wr.heap.size, 0, none⟩ 1 1 [.int .i64 k] rfl rfl ?c1 ?c2 ?c3 ?c4 ?c5 ?_)
          case c1 => exact one_new wr _ _
          case c2 => intro u hu; simp at hu; subst hu; rfl
          case c3 => have := HLN.out; unfold maxLen; omega
          case c4 => have := HLN.out; omega
          case c5 => simp; omega
          intro v' w3 hown' hgrow _
          obtain ⟨C3, hB3⟩ := kept_append HO.out C hB (by omega) hgrow
          have HO3 := Lib.hid (show w3.ownsRow (w.heap.size + 1) 3 1 v' (nodL g k ++ List.replicate (j + 1) (k : Int)).length ((nodL g k ++ List.replicate (j + 1) (k : Int)).map (Value.int .i64)) by
            have e : nodL g k ++ List.replicate (j + 1) (k : Int) = (nodL g k ++ List.replicate j (k : Int)) ++ [(k : Int)] := by rw [List.replicate_succ', List.append_assoc]
            rw [e]
            simpa [Nat.add_assoc] using hown')
          clear hown' hgrow HO C hB ck
          go_wp2_with (fail)
          go_roundw
          case rel => exact ⟨j + 1, hlj, by go_num, HO3, C3, hB3⟩
          case measure => simp [intOf]; omega
        · obtain rfl : j = f := by omega
          go_wp2_with (fail)
          go_roundw
          case rel => exact ⟨k + 1, hlt, by go_num, by rw [HS.out]; exact HO, C, hB⟩
          case measure => simp [intOf]; omega
    · obtain rfl : k = n := by omega
      go_wp2_with (fail)
      go_ret
      exact ⟨_, rfl, ⟨HO1.out.1, by
        rcases HO1.out.2 with h | ⟨q, cap, cur, e1, e2, e3⟩
        · exact .inl h
        · exact .inr ⟨q, cap, cur, e1, by omega, e3⟩⟩, hB1⟩
end
/-! A map from ints as a finite function; its laws at the operations. Of no program. -/
section
open Go.RowKit Go Go.Maps

abbrev MDat := DataW Unit
/-- Block b is a map from ints: at x it has what s says. -/
def IMap (P : Program) (k : TypeId) (R : Value → Option (MDat × List MemPlace)) (w : World) (b : Nat) (s : Int → Option MDat) : Prop :=
  ∃ (D : MDat) (l : List Int), w.ownsMap P k R b l.length D ∧ (∀ x, Maps.has D (.int .i64 x) = (s x).isSome) ∧ (∀ x d, s x = some d → ∀ z, D.atKey (.int .i64 x) z = d)
    ∧ l.Nodup ∧ (∀ x, x ∈ l ↔ (s x).isSome = true) ∧ Maps.size D = l.length
def upd (s : Int → Option MDat) (x : Int) (d : MDat) : Int → Option MDat := fun y => if y = x then some d else s y
def cut (s : Int → Option MDat) (x : Int) : Int → Option MDat := fun y => if y = x then none else s y
theorem isKey_int (x : Int) : WideAt.IsKeyLit (.int .i64 x) := by first | trivial | exact ⟨_, rfl⟩ | simp [WideAt.IsKeyLit]
theorem key_ne {x y : Int} (h : y ≠ x) : Lit.int .i64 y ≠ Lit.int .i64 x := fun e => h (by injection e)

/-- No more different numbers below m than m. -/
theorem nodup_short : ∀ (m : Nat) (l : List Int), l.Nodup → (∀ x ∈ l, 0 ≤ x ∧ x < m) → l.length ≤ m
  | 0, [], _, _ => Nat.le_refl _
  | 0, x :: _, _, h => by have := h x List.mem_cons_self; omega
  | m + 1, l, hn, h => by
    have h1 := nodup_short m (l.erase (m : Int)) (hn.erase _) (fun x hx => by
      have h2 := h x (List.mem_of_mem_erase hx)
      have h3 : x ≠ (m : Int) := fun e => by subst e; exact hn.not_mem_erase hx
      omega)
    have h4 := List.length_erase (a := (m : Int)) (l := l)
    split at h4 <;> omega

section
variable {P : Program} {k : TypeId} {R : Value → Option (MDat × List MemPlace)} {w w' : World} {b : Nat} {s : Int → Option MDat}

theorem own_exact {n : Nat} {D : MDat} (h : w.ownsMap P k R b n D) {m : Nat} (hm : Maps.size D ≤ m) : w.ownsMap P k R b m D := by
  obtain ⟨es, clock, hb, F, hs, rfl⟩ := h
  refine ⟨es, clock, hb, F, ?_, rfl⟩
  simpa [Maps.size, length_sorted] using hm

theorem IMap.lt (h : IMap P k R w b s) : b < w.heap.size := by
  obtain ⟨D, l, ho, _⟩ := h
  exact ho.lt
theorem IMap.only {S : Nat → Prop} (h : IMap P k R w b s) (ho : Only S w w') (hs : ¬ S b) : IMap P k R w' b s := by
  have hlt := h.lt
  obtain ⟨D, l, ⟨es, clock, hb, r⟩, q⟩ := h
  exact ⟨D, l, ⟨es, clock, (ho.block b hlt hs).trans hb, r⟩, q⟩
theorem IMap.later (h : IMap P k R w b s) (hb : Below w.heap.size w w') : IMap P k R w' b s :=
  h.only (Only.of_below (S := fun _ => False) hb) (fun h => h)
theorem imap_made (P : Program) (k : TypeId) (R : Value → Option (MDat × List MemPlace)) (w : World) : IMap P k R (w.alloc (.map #[] 0)) w.heap.size (fun _ => none) :=
  ⟨.map [], [], World.ownsMap_made w P k R, fun _ => rfl, fun _ _ h => by simp at h, List.nodup_nil, fun x => by simp, rfl⟩
/-- How many there are at most. -/
theorem IMap.count (h : IMap P k R w b s) {m : Nat} (hm : ∀ x, (s x).isSome = true → 0 ≤ x ∧ x < m) : ∃ l : List Int, l.Nodup ∧ (∀ x, x ∈ l ↔ (s x).isSome = true) ∧ l.length ≤ m := by
  obtain ⟨D, l, _, _, _, hn, hl, _⟩ := h
  exact ⟨l, hn, hl, nodup_short m l hn fun x hx => hm x ((hl x).1 hx)⟩

variable {t e : TypeId} (hk : P.underlying k = some (.int .i64)) (ht : P.underlying t = some (.map k e)) {x : Int} (hx : (Lit.int .i64 x).wf = true)
include hk ht hx
theorem IMap.store (h : IMap P k R w b s) {m : Nat} (hm : ∀ x, (s x).isSome = true → 0 ≤ x ∧ x < m) (hmax : m < maxLen) {val : Value} {d : MDat} {ps : List MemPlace} (hv : R val = some (d, ps)) :
    ∃ w', (Instr.mapUpdate t (.map (some b)) (.int .i64 x) val).run P w = .ok () w' ∧ IMap P k R w' b (upd s x d) ∧ Only (fun j => j = b) w w' := by
  obtain ⟨D, l, ho, h1, h2, hn, hl, hsz⟩ := h
  have hlen := nodup_short m l hn fun y hy => hm y ((hl y).1 hy)
  have K := Maps.int_keyed hk
  obtain ⟨w', hrun, ho', ht'⟩ := ho.store K ht (by omega) (Maps.keyOf_int_mk hk hx) hv
  have hD := ho.isMap
  have hT := ho.tidy K
  have hput := Maps.size_put (k := .int .i64 x) hT d
  refine ⟨w', hrun, ⟨D.put (.int .i64 x) d, if (s x).isSome then l else x :: l, ?_, fun y => ?_, fun y dy hy z => ?_, ?_, fun y => ?_, ?_⟩, (Only.of_grown ht'.grown).mono fun j hj => by injection hj with hj; exact hj.symm⟩
  · refine own_exact ho' ?_
    rw [hput, h1 x]
    split <;> simp_all
  · unfold upd
    by_cases e : y = x
    · subst e; rw [Maps.has_put_same hD (isKey_int _)]; simp
    · rw [Maps.has_put_other (key_ne e), h1 y]; simp [e]
  · unfold upd at hy
    by_cases e : y = x
    · subst e
      simp only [if_true, Option.some.injEq] at hy
      subst hy
      exact Maps.atKey_put_same hD (isKey_int _) _ _
    · rw [Maps.atKey_put_other (key_ne e)]
      exact h2 y dy (by simpa [e] using hy) z
  · split
    · exact hn
    · rename_i hc
      exact List.nodup_cons.2 ⟨fun hh => hc ((hl x).1 hh), hn⟩
  · unfold upd
    by_cases e : y = x
    · subst e
      simp only [if_true, Option.isSome_some, iff_true]
      split
      · rename_i hc; exact (hl y).2 hc
      · exact List.mem_cons_self
    · simp only [if_neg e]
      split
      · exact hl y
      · rw [List.mem_cons]; exact ⟨fun hh => hh.elim (fun q => absurd q e) (hl y).1, fun hh => .inr ((hl y).2 hh)⟩
  · rw [hput, h1 x]
    split <;> simp_all
theorem IMap.drop (h : IMap P k R w b s) (ty : TypeId) :
    ∃ w', (Builtin.delete_ #[t, k] ty #[.map (some b), .int .i64 x]).run P w = .ok (.tuple #[]) w' ∧ IMap P k R w' b (cut s x) ∧ Only (fun j => j = b) w w' := by
  obtain ⟨D, l, ho, h1, h2, hn, hl, hsz⟩ := h
  have K := Maps.int_keyed hk
  obtain ⟨w', hrun, ho', ht'⟩ := ho.drop K ht (Maps.keyOf_int_mk hk hx) ty
  have hT := ho.tidy K
  have hdel := Maps.size_del (k := .int .i64 x) hT
  have hlen := List.length_erase (a := x) (l := l)
  have hc : l.contains x = (s x).isSome := by
    rw [Bool.eq_iff_iff, List.contains_iff_mem]; exact hl x
  have hnew : Maps.size (D.del (.int .i64 x)) = (l.erase x).length := by
    rw [h1 x] at hdel
    have hpos : x ∈ l → 0 < l.length := List.length_pos_of_mem
    by_cases e : (s x).isSome = true
    · rw [if_pos e] at hdel
      have hm := (hl x).2 e
      have := hpos hm
      rw [if_pos hm] at hlen
      omega
    · rw [if_neg e] at hdel
      have hm : ¬ x ∈ l := fun q => e ((hl x).1 q)
      rw [if_neg hm] at hlen
      omega
  refine ⟨w', hrun, ⟨D.del (.int .i64 x), l.erase x, own_exact ho' (by omega), fun y => ?_, fun y dy hy z => ?_, hn.erase _, fun y => ?_, hnew⟩, (Only.of_grown ht'.grown).mono fun j hj => by injection hj with hj; exact hj.symm⟩
  · unfold cut
    by_cases e : y = x
    · subst e; rw [Maps.has_del_same]; simp
    · rw [Maps.has_del_other (key_ne e), h1 y]; simp [e]
  · unfold cut at hy
    by_cases e : y = x
    · simp [e] at hy
    · rw [Maps.atKey_del_other (key_ne e)]
      exact h2 y dy (by simpa [e] using hy) z
  · unfold cut
    rw [hn.mem_erase_iff]
    by_cases e : y = x
    · simp [e]
    · simp only [ne_eq, e, not_false_eq_true, true_and]; exact hl y
theorem IMap.look (h : IMap P k R w b s) {z : Value} (hz : (zeroValue e).run P w = .ok z w) {zd : MDat} {zp : List MemPlace} (hzd : R z = some (zd, zp)) :
    ∃ v ps, (Instr.lookup t (.map (some b)) (.int .i64 x) true).run P w = .ok (.tuple #[v, .bool (s x).isSome]) w ∧ R v = some ((s x).getD zd, ps) := by
  obtain ⟨D, l, ho, h1, h2, _⟩ := h
  obtain ⟨v, ps, hrun, hv⟩ := ho.look_ok (Maps.int_keyed hk) ht hz hzd (Maps.keyOf_int_mk hk hx)
  refine ⟨v, ps, by rw [hrun, h1 x], ?_⟩
  rw [hv]
  cases hs : s x with
  | none =>
    have := h1 x
    rw [hs] at this
    rw [Maps.atKey_of_not_has this]; rfl
  | some d => rw [h2 x d hs]; rfl
end

section
variable {P : Program} {w : World} {ops : Array Oper} {rest : List Oper} {o : Oper} {a : Act} {Q : Exit → Act → World → Prop}
/-- 'v, ok := m[x]'. -/
theorem wpList_look_imap (hg : o.guard = none) (m y : Operand) (t : TypeId) (hop : o.op = Op.lookup t m y true)
    (k e : TypeId) (hk : P.underlying k = some (.int .i64)) (ht : P.underlying t = some (.map k e)) (R : Value → Option (MDat × List MemPlace)) {z : Value} (hz : (zeroValue e).run P w = .ok z w) (zd : MDat) (zp : List MemPlace) (hzd : R z = some (zd, zp)) (b : Nat) (s : Int → Option MDat)
    (hm : a.eval m = .map (some b)) (hown : IMap P k R w b s) (x : Int) (hy : a.eval y = .int .i64 x) (hx : (Lit.int .i64 x).wf = true)
    (hK : ∀ v ps, R v = some ((s x).getD zd, ps) → wpList P ops Q rest (a.put o.dst (.tuple #[v, .bool (s x).isSome])) w) :
    wpList P ops Q (o :: rest) a w := by
  refine wpList_plain hg fun K' hK' => ?_
  obtain ⟨v, ps, hrun, hv⟩ := hown.look hk ht hx hz hzd
  unfold Oper.wp
  simp [execOp, hop, hm, hy, hrun, Result.andThen]
  exact hK' _ _ (hK v ps hv)
/-- 'm[x] = v'. -/
theorem wpList_store_imap (hg : o.guard = none) (m y v : Operand) (t : TypeId) (hop : o.op = Op.mapUpdate t m y v)
    (k e : TypeId) (hk : P.underlying k = some (.int .i64)) (ht : P.underlying t = some (.map k e)) (R : Value → Option (MDat × List MemPlace)) (b : Nat) (s : Int → Option MDat)
    (hm : a.eval m = .map (some b)) (hown : IMap P k R w b s) (x : Int) (hy : a.eval y = .int .i64 x) (hx : (Lit.int .i64 x).wf = true) (c : Nat) (hc : ∀ x, (s x).isSome = true → 0 ≤ x ∧ x < c) (hmax : c < maxLen)
    (val : Value) (hv : a.eval v = val) (d : MDat) (ps : List MemPlace) (hval : R val = some (d, ps))
    (hK : ∀ w', IMap P k R w' b (upd s x d) → Only (fun j => j = b) w w' → wpList P ops Q rest (a.put o.dst undef) w') :
    wpList P ops Q (o :: rest) a w := by
  refine wpList_plain hg fun K' hK' => ?_
  obtain ⟨w', hrun, r1, r2⟩ := hown.store hk ht hx hc hmax hval
  unfold Oper.wp
  simp [execOp, hop, hm, hy, hv, hrun, Result.andThen]
  exact hK' _ _ (hK w' r1 r2)
/-- 'delete(m, x)'. -/
theorem wpList_drop_imap (hg : o.guard = none) (m y : Operand) (t k : TypeId) (hop : o.op = Op.call { callee := Callee.builtin Builtin.delete, args := #[m, y], argTypes := #[t, k] })
    (e : TypeId) (hk : P.underlying k = some (.int .i64)) (ht : P.underlying t = some (.map k e)) (R : Value → Option (MDat × List MemPlace)) (b : Nat) (s : Int → Option MDat)
    (hm : a.eval m = .map (some b)) (hown : IMap P k R w b s) (x : Int) (hy : a.eval y = .int .i64 x) (hx : (Lit.int .i64 x).wf = true)
    (hK : ∀ w', IMap P k R w' b (cut s x) → Only (fun j => j = b) w w' → wpList P ops Q rest (a.put o.dst (.tuple #[])) w') :
    wpList P ops Q (o :: rest) a w := by
  refine wpList_plain hg fun K' hK' => ?_
  obtain ⟨w', hrun, r1, r2⟩ := hown.drop hk ht hx o.type
  unfold Oper.wp
  simp [execOp, hop, resolve, invoke, builtin, hm, hy, hrun, Result.andThen]
  exact hK' _ _ (hK w' r1 r2)
end

/-- How elements of one type read. -/
structure Elem (R : Value → Option (MDat × List MemPlace)) (α : Type) where
  g : α → MDat
  v : α → Value
  ok : α → Prop
  says : ∀ c, ok c → ∃ ps, R (v c) = some (g c, ps)
  inv : ∀ u c ps, R u = some (g c, ps) → u = v c
def elemInt {P : Program} {e : TypeId} (he : P.underlying e = some (.int .i64)) : Elem (plainElem P e) Int :=
  ⟨fun c => .lit (.int .i64 c), fun c => .int .i64 c, fun c => (Lit.int .i64 c).wf = true, fun c hc => ⟨[], plainElem_int he hc⟩, fun u c ps h => by
    obtain ⟨d, rfl, hd, _⟩ := plainElem_int_inv he h
    injection hd with h1 _
    injection h1 with h1
    injection h1 with _ h1
    rw [h1]⟩
def elemBool {P : Program} {e : TypeId} (he : P.underlying e = some .bool) : Elem (plainElem P e) Bool :=
  ⟨fun c => .lit (.bool c), fun c => .bool c, fun _ => True, fun c _ => ⟨[], plainElem_bool he c⟩, fun u c ps h => by
    unfold plainElem at h
    rw [he] at h
    cases u <;> simp at h
    rename_i d
    rw [h.1]⟩
def elemUnit : Elem unitElem Unit :=
  ⟨fun _ => .agg [], fun _ => .agg #[], fun _ => True, fun _ _ => ⟨[], unitElem_mk⟩, fun _ _ _ h => (unitElem_inv h).1⟩

/-- Block b is a map from ints that holds what f says. -/
def FMap (P : Program) (k : TypeId) {R : Value → Option (MDat × List MemPlace)} {α : Type} (E : Elem R α) (w : World) (b : Nat) (f : Int → Option α) : Prop := IMap P k R w b (fun x => (f x).map E.g)
def fput {α : Type} (f : Int → Option α) (x : Int) (c : α) : Int → Option α := fun y => if y = x then some c else f y
def fcut {α : Type} (f : Int → Option α) (x : Int) : Int → Option α := fun y => if y = x then none else f y
theorem upd_map {α : Type} (f : Int → Option α) (g : α → MDat) (x : Int) (c : α) : upd (fun x => (f x).map g) x (g c) = fun y => (fput f x c y).map g := by
  funext y; unfold upd fput; split <;> rfl
theorem cut_map {α : Type} (f : Int → Option α) (g : α → MDat) (x : Int) : cut (fun x => (f x).map g) x = fun y => (fcut f x y).map g := by
  funext y; unfold cut fcut; split <;> rfl

section
variable {P : Program} {k : TypeId} {R : Value → Option (MDat × List MemPlace)} {α : Type} {E : Elem R α} {w w' : World} {b : Nat} {f : Int → Option α}
theorem FMap.lt (h : FMap P k E w b f) : b < w.heap.size := IMap.lt h
theorem FMap.only {S : Nat → Prop} (h : FMap P k E w b f) (ho : Only S w w') (hs : ¬ S b) : FMap P k E w' b f := IMap.only h ho hs
theorem FMap.later (h : FMap P k E w b f) (hb : Below w.heap.size w w') : FMap P k E w' b f := IMap.later h hb
theorem fmap_made (P : Program) (k : TypeId) (E : Elem R α) (w : World) : FMap P k E (w.alloc (.map #[] 0)) w.heap.size (fun _ => none) := imap_made P k R w
theorem FMap.count (h : FMap P k E w b f) {m : Nat} (hm : ∀ x, (f x).isSome = true → 0 ≤ x ∧ x < m) : ∃ l : List Int, l.Nodup ∧ (∀ x, x ∈ l ↔ (f x).isSome = true) ∧ l.length ≤ m := by
  obtain ⟨l, h1, h2, h3⟩ := IMap.count h (m := m) fun x hx => hm x (by simpa using hx)
  exact ⟨l, h1, fun x => by rw [h2 x]; simp, h3⟩
theorem FMap.len {t e : TypeId} (h : FMap P k E w b f) (ht : P.underlying t = some (.map k e)) (ty : TypeId) : ∃ l : List Int, l.Nodup ∧ (∀ x, x ∈ l ↔ (f x).isSome = true) ∧
    (Builtin.len_ #[t] ty #[.map (some b)]).run P w = .ok (.int .i64 l.length) w := by
  obtain ⟨D, l, ho, _, _, hn, hl, hsz⟩ := h
  exact ⟨l, hn, fun x => by rw [hl x]; simp, by rw [ho.len ht ty, hsz]⟩
end
section
variable {P : Program} {w : World} {ops : Array Oper} {rest : List Oper} {o : Oper} {a : Act} {Q : Exit → Act → World → Prop}
/-- 'v, ok := m[x]'. -/
theorem wpList_look_fmap (hg : o.guard = none) (m y : Operand) (t : TypeId) (hop : o.op = Op.lookup t m y true)
    (k e : TypeId) (hk : P.underlying k = some (.int .i64)) (ht : P.underlying t = some (.map k e)) {R : Value → Option (MDat × List MemPlace)} {α : Type} (E : Elem R α) (z : α) (hzo : E.ok z) (hz : (zeroValue e).run P w = .ok (E.v z) w) (b : Nat) (f : Int → Option α)
    (hm : a.eval m = .map (some b)) (hown : FMap P k E w b f) (x : Int) (hy : a.eval y = .int .i64 x) (hx : (Lit.int .i64 x).wf = true)
    (hK : wpList P ops Q rest (a.put o.dst (.tuple #[E.v ((f x).getD z), .bool (f x).isSome])) w) :
    wpList P ops Q (o :: rest) a w := by
  obtain ⟨zp, hzd⟩ := E.says z hzo
  refine wpList_look_imap hg m y t hop k e hk ht R hz _ _ hzd b _ hm hown x hy hx fun v ps hv => ?_
  have e1 : ((f x).map E.g).getD (E.g z) = E.g ((f x).getD z) := by cases f x <;> rfl
  rw [e1] at hv
  rw [E.inv v _ ps hv, Option.isSome_map]
  exact hK
/-- 'v := m[x]'. -/
theorem wpList_look1_fmap (hg : o.guard = none) (m y : Operand) (t : TypeId) (hop : o.op = Op.lookup t m y false)
    (k e : TypeId) (hk : P.underlying k = some (.int .i64)) (ht : P.underlying t = some (.map k e)) {R : Value → Option (MDat × List MemPlace)} {α : Type} (E : Elem R α) (z : α) (hzo : E.ok z) (hz : (zeroValue e).run P w = .ok (E.v z) w) (b : Nat) (f : Int → Option α)
    (hm : a.eval m = .map (some b)) (hown : FMap P k E w b f) (x : Int) (hy : a.eval y = .int .i64 x) (hx : (Lit.int .i64 x).wf = true)
    (hK : wpList P ops Q rest (a.put o.dst (E.v ((f x).getD z))) w) :
    wpList P ops Q (o :: rest) a w := by
  refine wpList_plain hg fun K' hK' => ?_
  obtain ⟨zp, hzd⟩ := E.says z hzo
  obtain ⟨D, l, ho, h1, h2, _⟩ := hown
  obtain ⟨v, ps, hrun, hv⟩ := ho.lookup (Maps.int_keyed hk) ht hz hzd (Maps.keyOf_int_mk hk hx)
  have e1 : D.atKey (.int .i64 x) (E.g z) = E.g ((f x).getD z) := by
    have h3 : Maps.has D (.int .i64 x) = ((f x).map E.g).isSome := h1 x
    have h4 : ∀ d, (f x).map E.g = some d → ∀ z, D.atKey (.int .i64 x) z = d := h2 x
    cases hf : f x with
    | none =>
      rw [hf] at h3
      rw [Maps.atKey_of_not_has h3]; rfl
    | some c => rw [h4 (E.g c) (by rw [hf]; rfl)]; rfl
  rw [e1] at hv
  rw [E.inv v _ ps hv] at hrun
  unfold Oper.wp
  simp [execOp, hop, hm, hy, hrun, Result.andThen]
  exact hK' _ _ hK
/-- 'm[x] = c'. -/
theorem wpList_store_fmap (hg : o.guard = none) (m y v : Operand) (t : TypeId) (hop : o.op = Op.mapUpdate t m y v)
    (k e : TypeId) (hk : P.underlying k = some (.int .i64)) (ht : P.underlying t = some (.map k e)) {R : Value → Option (MDat × List MemPlace)} {α : Type} (E : Elem R α) (b : Nat) (f : Int → Option α)
    (hm : a.eval m = .map (some b)) (hown : FMap P k E w b f) (x : Int) (hy : a.eval y = .int .i64 x) (hx : (Lit.int .i64 x).wf = true) (n : Nat) (hn : ∀ x, (f x).isSome = true → 0 ≤ x ∧ x < n) (hmax : n < maxLen)
    (c : α) (hv : a.eval v = E.v c) (hc : E.ok c)
    (hK : ∀ w', FMap P k E w' b (fput f x c) → Only (fun j => j = b) w w' → wpList P ops Q rest (a.put o.dst undef) w') :
    wpList P ops Q (o :: rest) a w := by
  obtain ⟨ps, hval⟩ := E.says c hc
  refine wpList_store_imap hg m y v t hop k e hk ht R b _ hm hown x hy hx n (fun y hy => hn y (by simpa using hy)) hmax _ hv _ ps hval fun w' h1 h2 => hK w' ?_ h2
  rw [upd_map] at h1
  exact h1
/-- 'delete(m, x)'. -/
theorem wpList_drop_fmap (hg : o.guard = none) (m y : Operand) (t k : TypeId) (hop : o.op = Op.call { callee := Callee.builtin Builtin.delete, args := #[m, y], argTypes := #[t, k] })
    (e : TypeId) (hk : P.underlying k = some (.int .i64)) (ht : P.underlying t = some (.map k e)) {R : Value → Option (MDat × List MemPlace)} {α : Type} (E : Elem R α) (b : Nat) (f : Int → Option α)
    (hm : a.eval m = .map (some b)) (hown : FMap P k E w b f) (x : Int) (hy : a.eval y = .int .i64 x) (hx : (Lit.int .i64 x).wf = true)
    (hK : ∀ w', FMap P k E w' b (fcut f x) → Only (fun j => j = b) w w' → wpList P ops Q rest (a.put o.dst (.tuple #[])) w') :
    wpList P ops Q (o :: rest) a w := by
  refine wpList_drop_imap hg m y t k hop e hk ht R b _ hm hown x hy hx fun w' h1 h2 => hK w' ?_ h2
  rw [cut_map] at h1
  exact h1
/-- 'len(m)'. -/
theorem wpList_len_fmap (hg : o.guard = none) (m : Operand) (t : TypeId) (hop : o.op = Op.call { callee := Callee.builtin Builtin.len, args := #[m], argTypes := #[t] })
    (k e : TypeId) (ht : P.underlying t = some (.map k e)) {R : Value → Option (MDat × List MemPlace)} {α : Type} (E : Elem R α) (b : Nat) (f : Int → Option α) (hm : a.eval m = .map (some b)) (hown : FMap P k E w b f)
    (hK : ∀ l : List Int, l.Nodup → (∀ x, x ∈ l ↔ (f x).isSome = true) → wpList P ops Q rest (a.put o.dst (.int .i64 l.length)) w) :
    wpList P ops Q (o :: rest) a w := by
  obtain ⟨D, l, ho, _, _, hn, hl, hsz⟩ := hown
  refine wpList_len_own w hg m t hop k e ht R b _ D hm ho ?_
  rw [hsz]
  exact hK l hn fun x => by rw [hl x]; simp
end
end
/-! 'for x, c := range m' over a map from ints as a finite function: whichever key comes next. Of no program. -/
section
open Go.RowKit Go Go.Maps

/-- Block r goes over the map in block b, which holds what f says; 'left' are the keys that are still to come. -/
def FRange (P : Program) (k : TypeId) {R : Value → Option (MDat × List MemPlace)} {α : Type} (E : Elem R α) (w : World) (b r : Nat) (f : Int → Option α) (left : Int → Bool) : Prop :=
  ∃ (D : MDat) (l : List Int) (leftL : Lit → Bool) (cnt : Nat), w.ranges P k R b r l.length D leftL cnt ∧ (∀ x, leftL (.int .i64 x) = left x) ∧ (∀ x, left x = true → (f x).isSome = true)
    ∧ (∀ x, Maps.has D (.int .i64 x) = ((f x).map E.g).isSome) ∧ (∀ x d, (f x).map E.g = some d → ∀ z, D.atKey (.int .i64 x) z = d) ∧ l.Nodup ∧ (∀ x, x ∈ l ↔ ((f x).map E.g).isSome = true) ∧ Maps.size D = l.length
def strike (left : Int → Bool) (x : Int) : Int → Bool := fun y => left y && !(y == x)

section
variable {P : Program} {k : TypeId} {R : Value → Option (MDat × List MemPlace)} {α : Type} {E : Elem R α} {w w' : World} {b r : Nat} {f : Int → Option α} {left : Int → Bool}
theorem FRange.fmap (h : FRange P k E w b r f left) : FMap P k E w b f := by
  obtain ⟨D, l, _, _, h1, _, _, h4, h5, h6, h7, h8⟩ := h
  exact ⟨D, l, h1.owns, h4, h5, h6, h7, h8⟩
theorem FRange.lt (h : FRange P k E w b r f left) : b < w.heap.size ∧ r < w.heap.size ∧ r ≠ b := by
  have h0 := h.fmap.lt
  obtain ⟨D, l, _, _, h1, _⟩ := h
  exact ⟨h0, h1.lt, h1.ne⟩
theorem FRange.only {S : Nat → Prop} (h : FRange P k E w b r f left) (ho : Only S w w') (hb : ¬ S b) (hr : ¬ S r) : FRange P k E w' b r f left ∧ w'.rangeLeft b r = w.rangeLeft b r := by
  obtain ⟨h1, h2, _⟩ := h.lt
  have e1 := ho.block b h1 hb
  have e2 := ho.block r h2 hr
  obtain ⟨D, l, leftL, cnt, ⟨es, clock, since, seen, c0, q1, F, hs, hD, q2, rest⟩, q⟩ := h
  refine ⟨⟨D, l, leftL, cnt, ⟨es, clock, since, seen, c0, e1.trans q1, F, hs, hD, e2.trans q2, rest⟩, q⟩, ?_⟩
  unfold World.rangeLeft
  rw [e1, e2]
theorem FRange.later (h : FRange P k E w b r f left) (hb : Below w.heap.size w w') : FRange P k E w' b r f left ∧ w'.rangeLeft b r = w.rangeLeft b r :=
  h.only (Only.of_below (S := fun _ => False) hb) (fun h => h) (fun h => h)
end
section
variable {P : Program} {w : World} {ops : Array Oper} {rest : List Oper} {o : Oper} {a : Act} {Q : Exit → Act → World → Prop}
/-- 'range m'. -/
theorem wpList_range_fmap (hg : o.guard = none) (m : Operand) (t : TypeId) (hop : o.op = Op.range t m) (k e : TypeId) (hk : P.underlying k = some (.int .i64)) (ht : P.underlying t = some (.map k e))
    {R : Value → Option (MDat × List MemPlace)} {α : Type} (E : Elem R α) (b : Nat) (f : Int → Option α) (hm : a.eval m = .map (some b)) (hown : FMap P k E w b f)
    (hK : ∀ w', FRange P k E w' b w.heap.size f (fun x => (f x).isSome) → Below w.heap.size w w' → w'.heap.size = w.heap.size + 1 → wpList P ops Q rest (a.put o.dst (.pointer (some ⟨w.heap.size, 0, none⟩))) w') :
    wpList P ops Q (o :: rest) a w := by
  obtain ⟨D, l, ho, h1, h2, hn, hl, hsz⟩ := hown
  refine wpList_range_own w hg m t hop k e (Maps.int_keyed hk) ht R b _ D hm ho fun w' hr hgr hs => hK w' ?_ ?_ hs
  · exact ⟨D, l, _, _, hr, fun x => by rw [h1 x, Option.isSome_map], fun x hx => hx, h1, h2, hn, hl, hsz⟩
  · exact (Below.refl w.heap.size w).grown hgr (Nat.le_refl _) (fun k hk => by simp at hk)
/-- The step: nothing is left, or some key that is left comes. -/
theorem wpList_next_frange (hg : o.guard = none) (it : Operand) (hop : o.op = Op.next it false) (k : TypeId) (hk : P.underlying k = some (.int .i64)) {R : Value → Option (MDat × List MemPlace)} {α : Type} (E : Elem R α) (b r : Nat) (f : Int → Option α) (left : Int → Bool)
    (hit : a.eval it = .pointer (some ⟨r, 0, none⟩)) (h : FRange P k E w b r f left)
    (hDone : (∀ x, left x = false) → wpList P ops Q rest (a.put o.dst (.tuple #[.bool false])) w)
    (hMore : ∀ (x : Int) (c : α) (w' : World), (Lit.int .i64 x).wf = true → left x = true → f x = some c → FRange P k E w' b r f (strike left x) → w'.rangeLeft b r < w.rangeLeft b r → Only (fun j => j = r) w w' → w'.heap.size = w.heap.size →
      (Instr.entry (.pointer (some ⟨r, 0, none⟩))).run P w' = .ok (.tuple #[.int .i64 x, E.v c]) w' → wpList P ops Q rest (a.put o.dst (.tuple #[.bool true, .int .i64 x, E.v c])) w') :
    wpList P ops Q (o :: rest) a w := by
  obtain ⟨D, l, leftL, cnt, hr, h1, h2, h3, h4, h5⟩ := h
  refine wpList_plain hg fun K' hK' => ?_
  unfold Oper.wp
  rcases hr.next (Maps.int_keyed hk) o.type with ⟨_, hl, hrun⟩ | ⟨key, v, kl, y, w', cnt', hkey, hlk, hv, hat, hrun, hrg, hlt, hgr, hsz, hen⟩
  · simp [execOp, hop, hit, hrun, Result.andThen]
    exact hK' _ _ (hDone fun x => by rw [← h1 x]; exact hl _)
  · obtain ⟨x, rfl, rfl, hwx⟩ := Maps.keyOf_int_inv hk hkey
    have hx : left x = true := by rw [← h1 x]; exact hlk
    obtain ⟨c, hc⟩ := Option.isSome_iff_exists.1 (h2 x hx)
    have hy : y.1 = E.g c := by
      rw [← hat (E.g c)]
      exact h4 x (E.g c) (by rw [hc]; rfl) _
    have hvc : v = E.v c := E.inv v c y.2 (by rw [hv, ← hy])
    subst hvc
    simp [execOp, hop, hit, hrun, Result.andThen]
    refine hK' _ _ (hMore x c w' hwx hx hc ⟨D, l, _, cnt', hrg, fun z => ?_, fun z hz => ?_, h3, h4, h5⟩ ?_ ((Only.of_grown hgr).mono fun j hj => by injection hj with hj; exact hj.symm) hsz hen)
    · unfold strike
      rw [← h1 z]
      congr 2
      by_cases e : z = x
      · subst e; simp [WideAt.sameKey_self (isKey_int z)]
      · rw [Maps.sameKey_ne (key_ne e)]; simp [e]
    · unfold strike at hz
      exact h2 z (by simp at hz; exact hz.1)
    · rw [hrg.left_eq, hr.left_eq]; exact hlt
end
end
/-! Lists of records as they lie: s cells each. Of no program. -/
section
open Go.RowKit Go

/-- The cells of a list. -/
def recV {α : Type} (enc : α → List Value) : List α → List Value
  | [] => []
  | x :: r => enc x ++ recV enc r
section
variable {α : Type} {enc : α → List Value} {s : Nat}
theorem recV_len (hs : ∀ x, (enc x).length = s) : ∀ L : List α, (recV enc L).length = L.length * s
  | [] => by simp [recV]
  | x :: r => by rw [recV, List.length_append, hs, recV_len hs r, List.length_cons, Nat.add_mul, Nat.one_mul, Nat.add_comm]
theorem recV_append : ∀ L M : List α, recV enc (L ++ M) = recV enc L ++ recV enc M
  | [], _ => rfl
  | x :: r, M => by rw [List.cons_append, recV, recV, recV_append r M, List.append_assoc]
theorem recV_single (x : α) : recV enc [x] = enc x := by simp [recV]
theorem recV_at (hs : ∀ x, (enc x).length = s) : ∀ (L : List α) (i : Nat) (x : α), L[i]? = some x → ∀ (j : Nat) (v : Value), (enc x)[j]? = some v → (recV enc L)[i * s + j]? = some v
  | [], _, _, h => by simp at h
  | y :: r, 0, x, h => fun j v hj => by
    simp at h
    subst h
    rw [Nat.zero_mul, Nat.zero_add, recV, List.getElem?_append_left (List.getElem?_eq_some_iff.1 hj).1]
    exact hj
  | y :: r, i + 1, x, h => fun j v hj => by
    have ih := recV_at hs r i x (by simpa using h) j v hj
    rw [recV, List.getElem?_append_right (by rw [hs, Nat.add_mul]; omega), hs, show (i + 1) * s + j - s = i * s + j by rw [Nat.add_mul]; omega]
    exact ih
theorem recV_one (h1 : ∀ x, ∀ u ∈ enc x, u.oneCell' = true) : ∀ L : List α, ∀ u ∈ recV enc L, u.oneCell' = true
  | [], _, h => absurd h List.not_mem_nil
  | x :: r, u, h => by
    rw [recV, List.mem_append] at h
    exact h.elim (h1 x u) (recV_one h1 r u)
theorem recV_take (hs : ∀ x, (enc x).length = s) : ∀ (L : List α) (i : Nat), (recV enc L).take (i * s) = recV enc (L.take i)
  | [], _ => by simp [recV]
  | _ :: _, 0 => by simp [recV]
  | x :: r, i + 1 => by
    rw [recV, List.take_succ_cons, recV, List.take_append, hs, show (i + 1) * s - s = i * s by rw [Nat.add_mul]; omega, recV_take hs r i, List.take_of_length_le (by rw [hs, Nat.add_mul]; omega)]
theorem recV_drop (hs : ∀ x, (enc x).length = s) : ∀ (L : List α) (i : Nat), (recV enc L).drop (i * s) = recV enc (L.drop i)
  | [], _ => by simp [recV]
  | _ :: _, 0 => by simp
  | x :: r, i + 1 => by
    rw [recV, List.drop_succ_cons, List.drop_append, hs, show (i + 1) * s - s = i * s by rw [Nat.add_mul]; omega, recV_drop hs r i, List.drop_eq_nil_of_le (by rw [hs, Nat.add_mul]; omega), List.nil_append]

/-- A list lies at a, from block B on. -/
def RecsAt (w : World) (B : Nat) (a : Option Addr) (enc : α → List Value) (s : Nat) (L : List α) : Prop :=
  0 < L.length → ∃ g, a = some ⟨g, 0, none⟩ ∧ B ≤ g ∧ g < w.heap.size ∧ ∃ A t, w.heap[g]? = some (.cells A t (0, 0)) ∧ ∀ i, i < L.length * s → A[i]? = (recV enc L)[i]?
theorem RecsAt.nil (w : World) (B : Nat) (a : Option Addr) : RecsAt w B a enc s [] := fun h => absurd h (Nat.lt_irrefl _)
theorem RecsAt.later {w w' : World} {B : Nat} {a : Option Addr} {L : List α} (h : RecsAt w B a enc s L) (hb : Below w.heap.size w w') : RecsAt w' B a enc s L := fun hp => by
  obtain ⟨g, e, hg, hlt, A, t, hA, hi⟩ := h hp
  exact ⟨g, e, hg, Nat.lt_of_lt_of_le hlt hb.size, A, t, by rw [hb.block g hlt]; exact hA, hi⟩
theorem RecsAt.below {w w' : World} {B C : Nat} {a : Option Addr} {L : List α} (h : RecsAt w B a enc s L) (hb : Below C w w') (hc : w.heap.size ≤ C) : RecsAt w' B a enc s L := h.later (hb.mono hc)
theorem RecsAt.only {S : Nat → Prop} {w w' : World} {B : Nat} {a : Option Addr} {L : List α} (h : RecsAt w B a enc s L) (ho : Only S w w') (hs : ∀ g, a = some ⟨g, 0, none⟩ → ¬ S g) : RecsAt w' B a enc s L := fun hp => by
  obtain ⟨g, e, hg, hlt, A, t, hA, hi⟩ := h hp
  exact ⟨g, e, hg, Nat.lt_of_lt_of_le hlt ho.size, A, t, by rw [ho.block g hlt (hs g e)]; exact hA, hi⟩
/-- What lies below its base turns. -/
theorem RecsAt.above {S : Nat → Prop} {w w' : World} {B : Nat} {a : Option Addr} {L : List α} (h : RecsAt w B a enc s L) (ho : Only S w w') (hs : ∀ g, B ≤ g → ¬ S g) : RecsAt w' B a enc s L := fun hp => by
  obtain ⟨g, e, hg, hlt, A, t, hA, hi⟩ := h hp
  exact ⟨g, e, hg, Nat.lt_of_lt_of_le hlt ho.size, A, t, by rw [ho.block g hlt (hs g hg)]; exact hA, hi⟩
theorem RecsAt.base {w : World} {B C : Nat} {a : Option Addr} {L : List α} (h : RecsAt w B a enc s L) (hc : C ≤ B) : RecsAt w C a enc s L := fun hp => by
  obtain ⟨g, e, hg, r⟩ := h hp
  exact ⟨g, e, Nat.le_trans hc hg, r⟩
/-- One record of it. -/
theorem RecsAt.get (hs : ∀ x, (enc x).length = s) {w : World} {B : Nat} {a : Option Addr} {L : List α} (h : RecsAt w B a enc s L) (i : Nat) (hi : i < L.length) :
    ∃ g, a = some ⟨g, 0, none⟩ ∧ B ≤ g ∧ g < w.heap.size ∧ w.rangeAt g (i * s) (enc L[i]) := by
  obtain ⟨g, e, hg, hlt, A, t, hA, hx⟩ := h (by omega)
  refine ⟨g, e, hg, hlt, fun j v hj => ?_⟩
  have h1 := recV_at hs L i L[i] (List.getElem?_eq_getElem hi) j v hj
  have h2 := (List.getElem?_eq_some_iff.1 h1).1
  rw [recV_len hs] at h2
  rw [cell_of_row _ _ _ _ _ _ hA, hx _ h2]
  exact h1
theorem RecsAt.of_owns {w : World} {B : Nat} {T : TypeId} {v : Value} {L : List α} (h : w.ownsRow B T s v L.length (recV enc L)) : ∃ a cap, v = .slice a L.length cap ∧ RecsAt w B a enc s L := by
  obtain ⟨a, cap, rfl, hr⟩ := owns_slice h
  refine ⟨a, cap, rfl, fun hp => ?_⟩
  obtain ⟨g, e, hg, _, A, t, hA, hi⟩ := hr hp
  exact ⟨g, e, hg, (Array.getElem?_eq_some_iff.1 hA).1, A, t, hA, hi⟩
/-- As a source of append. -/
theorem RecsAt.src (hs : ∀ x, (enc x).length = s) {w : World} {B : Nat} {a : Option Addr} {L : List α} (h : RecsAt w B a enc s L) : 0 < L.length → ∃ ad, a = some ad ∧ ∀ j u, (recV enc L)[j]? = some u → w.cell? (ad.add j) = some u := fun hp => by
  obtain ⟨g, rfl, _, _, A, t, hA, hx⟩ := h hp
  refine ⟨_, rfl, fun j u hj => ?_⟩
  have h2 := (List.getElem?_eq_some_iff.1 hj).1
  rw [recV_len hs] at h2
  rw [Addr.add_lit, Nat.zero_add, cell_of_row _ _ _ _ _ _ hA, hx _ h2]
  exact hj
end
end
/-! A region that draws its order, walked in one given order: what only reads is taken first, and a call is met where it alone may come up. Of no program. -/
section
open Go.RowKit Go

/-- The walk in a given order: at a number marked 'false' the operation yields its value in every world that meets S; at one marked 'true' it is met as it is. -/
def LexH (P : Program) (ops : Array Oper) (Q : Exit → Act → World → Prop) (S : World → Prop) (K : Act → World → Prop) : List (Nat × Bool) → Act → World → Prop
  | [], a, w => K a w
  | (i, false) :: r, a, w => ∃ o v, ops[i]? = some o ∧ YieldsIf P ops S o v a ∧ LexH P ops Q S K r (a.put o.dst v) w
  | (i, true) :: r, a, w => wpOp P ops Q i (fun a' w' => S w' ∧ LexH P ops Q S K r a' w') a w

/-- The order is one that serves. -/
def schedB (md : Region.Mode) (ops : Array Oper) : List (Nat × Bool) → Array Bool → Bool
  | [], listed => (Region.ready md ops listed).isEmpty
  | (i, false) :: r, listed => Region.free md ops listed i && ((Region.ready md ops listed).contains i && schedB md ops r (listed.setIfInBounds i true))
  | (i, true) :: r, listed => (Region.ready md ops listed == [i]) && schedB md ops r (listed.setIfInBounds i true)

theorem wpAnyH_of_lex {P : Program} {ops : Array Oper} {Q : Exit → Act → World → Prop} {S : World → Prop} {md : Region.Mode} (hs : Region.noSelect ops = true)
    (hQ : ∀ c a d v w, Q (.panic c) (Act.put a d v) w → Q (.panic c) a w) :
    ∀ (l : List (Nat × Bool)) (listed : Array Bool) (a : Act) (w : World), schedB md ops l listed = true → S w → LexH P ops Q S (Q .normal) l a w → wpAnyH P md ops Q S l.length listed a w
  | [], listed, a, w, hb, _, h => wpAnyH_done (by simpa [schedB] using hb) h 0
  | (i, false) :: r, listed, a, w, hb, hS, ⟨o, v, hi, hy, h⟩ => by
    simp only [schedB, Bool.and_eq_true] at hb
    exact wpAnyH_take hi hs hb.1 hb.2.1 (fun c a w => hQ c a o.dst v w) hy hS (wpAnyH_of_lex hs hQ r _ _ w hb.2.2 hS h)
  | (i, true) :: r, listed, a, w, hb, _, h => by
    simp only [schedB, Bool.and_eq_true, beq_iff_eq] at hb
    refine wpAnyH_all hb.1 (by simp) (fun j hj => ?_)
    obtain rfl : j = i := by simpa using hj
    exact wpOp_mono (fun a' w' hh => ⟨hh.1, wpAnyH_of_lex hs hQ r _ a' w' hb.2 hh.1 hh.2⟩) h

theorem wp_region_lex {P : Program} {id : Nat} {l : List Oper} {Q : Exit → Act → World → Prop} {a : Act} {w : World} (S : World → Prop) (order : List (Nat × Bool)) (hm : P.follows .mixedOrders = true)
    (hs : Region.noSelect l.toArray = true) (hn : order.length = l.toArray.size) (hb : schedB .any l.toArray order (Array.replicate l.toArray.size false) = true)
    (hS : S { w with drawn := w.drawn + 1 }) (h : ∀ W, S W → LexH P l.toArray (NoPanic Q) S (NoPanic Q .normal) order a W) : (Code.region id l.toArray true).wp P Q a w :=
  wp_region_noPanic (wp_region_held hm (hn ▸ wpAnyH_of_lex hs (fun _ _ _ _ _ h => h) order _ a _ hb hS (h _ hS)))

/-- The same, where S says what the reads want alone: the walk begins in the region's own first world. -/
theorem wp_region_lex1 {P : Program} {id : Nat} {l : List Oper} {Q : Exit → Act → World → Prop} {a : Act} {w : World} (S : World → Prop) (order : List (Nat × Bool)) (hm : P.follows .mixedOrders = true)
    (hs : Region.noSelect l.toArray = true) (hn : order.length = l.toArray.size) (hb : schedB .any l.toArray order (Array.replicate l.toArray.size false) = true)
    (hS : S w.drew) (h : ∀ W, W = w.drew → S W → LexH P l.toArray (NoPanic Q) S (NoPanic Q .normal) order a W) : (Code.region id l.toArray true).wp P Q a w :=
  wp_region_noPanic (wp_region_held hm (hn ▸ wpAnyH_of_lex hs (fun _ _ _ _ _ h => h) order _ a _ hb hS (h _ rfl hS)))


/-- Whatever order is picked, and S holds behind every operation that is carried out but f. -/
def wpAnyF (P : Program) (md : Region.Mode) (ops : Array Oper) (Q : Exit → Act → World → Prop) (S : World → Prop) (f : Nat) : Nat → Array Bool → Act → World → Prop
  | 0, listed, a, w => Region.ready md ops listed = [] ∧ Q .normal a w
  | fuel + 1, listed, a, w =>
    (Region.ready md ops listed = [] → Q .normal a w) ∧
    ∀ i ∈ Region.ready md ops listed, wpOp P ops Q i (fun a' w' => (i = f ∨ listed.getD f false = true ∨ S w') ∧ wpAnyF P md ops Q S f fuel (listed.setIfInBounds i true) a' w') a w
theorem wpAny_of_F {P : Program} {md : Region.Mode} {ops : Array Oper} {Q : Exit → Act → World → Prop} {S : World → Prop} {f : Nat} : ∀ (fuel : Nat) (listed : Array Bool) (a : Act) (w : World), wpAnyF P md ops Q S f fuel listed a w → wpAny P md ops Q fuel listed a w
  | 0, _, _, _, h => h
  | fuel + 1, _, _, _, h => ⟨h.1, fun i hi => wpOp_mono (fun a' w' h' => wpAny_of_F fuel _ a' w' h'.2) (h.2 i hi)⟩
/-- What has come up has had all come up that it waits for. -/
def Closed (md : Region.Mode) (ops : Array Oper) (listed : Array Bool) : Prop := ∀ j o, ops[j]? = some o → listed.getD j false = true → ∀ e ∈ o.after, Region.binds md e = true → listed.getD e.on false = true
theorem Closed.add {md : Region.Mode} {ops : Array Oper} {listed : Array Bool} {j : Nat} (h : Closed md ops listed) (hj : j ∈ Region.ready md ops listed) : Closed md ops (listed.setIfInBounds j true) := by
  intro k o ho hk e he hb
  refine getD_set_true ?_
  by_cases hjk : j = k
  · subst hjk
    obtain ⟨_, o', ho', hall⟩ := mem_ready.1 hj
    rw [ho] at ho'
    cases ho'
    exact hall e he hb
  · rw [getD_set_ne false hjk] at hk
    exact h k o ho hk e he hb
theorem Closed.start (md : Region.Mode) (ops : Array Oper) (n : Nat) : Closed md ops (Array.replicate n false) := by
  intro j o _ h
  simp only [Array.getD_eq_getD_getElem?, Array.getElem?_replicate] at h
  split at h <;> cases h
/-- x waits for i. -/
def reachB (md : Region.Mode) (ops : Array Oper) (i : Nat) : Nat → Nat → Bool
  | 0, _ => false
  | fuel + 1, x => match ops[x]? with
    | none => false
    | some o => o.after.any fun e => Region.binds md e && (e.on == i || reachB md ops i fuel e.on)
theorem reach_listed {md : Region.Mode} {ops : Array Oper} {listed : Array Bool} {i : Nat} (hc : Closed md ops listed) : ∀ (fuel x : Nat) (o : Oper), ops[x]? = some o →
    (∀ e ∈ o.after, Region.binds md e = true → listed.getD e.on false = true) → reachB md ops i fuel x = true → listed.getD i false = true
  | 0, _, _, _, _, h => by cases h
  | fuel + 1, x, o, ho, hall, h => by
    unfold reachB at h
    rw [ho] at h
    obtain ⟨e, he, h2⟩ := Array.any_eq_true'.1 h
    simp only [Bool.and_eq_true, Bool.or_eq_true, beq_iff_eq] at h2
    obtain ⟨hb, h3 | h3⟩ := h2
    · rw [← h3]; exact hall e he hb
    · cases fuel with
      | zero => cases h3
      | succ fuel =>
        have h4 := h3
        unfold reachB at h4
        cases ho2 : ops[e.on]? with
        | none => rw [ho2] at h4; cases h4
        | some o2 => exact reach_listed hc _ e.on o2 ho2 (hc e.on o2 ho2 (hall e he hb)) h3

theorem reach_self {md : Region.Mode} {ops : Array Oper} {listed : Array Bool} {i n : Nat} (h : reachB md ops i n i = true) (hc : Closed md ops listed) (hr : i ∈ Region.ready md ops listed) : False := by
  obtain ⟨h0, o, ho, hall⟩ := mem_ready.1 hr
  have h1 := reach_listed hc n i o ho hall h
  rcases Nat.lt_or_ge i listed.size with h' | h'
  · simp [h'] at h0 h1; rw [h0] at h1; cases h1
  · simp [Array.getElem?_eq_none h'] at h1
theorem wpAnyF_first {P : Program} {md : Region.Mode} {ops : Array Oper} {Q : Exit → Act → World → Prop} {S : World → Prop} {f i n : Nat} {oi : Oper} {v : Value} (hi : ops[i]? = some oi) (hsel : ∀ (j : Nat) (o : Oper) cs b, ops[j]? = some o → o.op ≠ .select cs b)
    (hQ : ∀ c a w, Q (.panic c) (a.put oi.dst v) w → Q (.panic c) a w) (hreach : reachB md ops i n f = true) :
    ∀ (fuel : Nat) (listed : Array Bool) (a : Act) (w : World), Closed md ops listed →
      (∀ j oj, ops[j]? = some oj → j ≠ i → listed.getD j true = false → (∀ e ∈ oj.after, Region.binds md e = true → e.on ≠ i) → oi.apart ops oj = true) →
      i ∈ Region.ready md ops listed → YieldsIf P ops S oi v a → S w →
      wpAnyF P md ops Q S f fuel (listed.setIfInBounds i true) (a.put oi.dst v) w → wpAnyF P md ops Q S f (fuel + 1) listed a w := by
  intro fuel
  induction fuel with
  | zero =>
    intro listed a w _ _ hr hy hS H
    refine ⟨fun h => (by rw [h] at hr; cases hr), fun j hj => ?_⟩
    by_cases hji : j = i
    · subst hji; exact hy.wpOp hi hS ⟨.inr (.inr hS), H⟩
    · have := ready_mono hj hji
      rw [H.1] at this
      cases this
  | succ fuel ih =>
    intro listed a w hcl hfree hr hy hS H
    refine ⟨fun h => (by rw [h] at hr; cases hr), fun j hj => ?_⟩
    by_cases hji : j = i
    · subst hji; exact hy.wpOp hi hS ⟨.inr (.inr hS), H⟩
    · have h1 := H.2 j (ready_mono hj hji)
      obtain ⟨hjun, oj, hoj, hall⟩ := mem_ready.1 hj
      have hun : ¬ listed.getD i false = true := fun h1 => by
        have h0 := (mem_ready.1 hr).1
        rcases Nat.lt_or_ge i listed.size with h' | h'
        · simp [h'] at h0 h1; rw [h0] at h1; cases h1
        · simp [Array.getElem?_eq_none h'] at h1
      have hnot : ∀ e ∈ oj.after, Region.binds md e = true → e.on ≠ i := fun e he hb heq => hun (by rw [← heq]; exact hall e he hb)
      have hjf : j ≠ f := fun e => by
        subst e
        exact hun (reach_listed hcl n j oj hoj hall hreach)
      have hfl : ¬ (listed.setIfInBounds i true).getD f false = true := fun e => by
        by_cases hfi : i = f
        · subst hfi
          exact reach_self hreach hcl hr
        · rw [getD_set_ne false hfi] at e
          cases hof : ops[f]? with
          | none =>
            cases n with
            | zero => cases hreach
            | succ n => simp [reachB, hof] at hreach
          | some of => exact hun (reach_listed hcl n f of hof (fun e' he' hb' => hcl f of hof e e' he' hb') hreach)
      have h2 := wpOp_putIf hoj (hfree j oj hoj hji hjun hnot) (fun cs b => hsel i oi cs b hi) (fun cs b => hsel j oj cs b hoj) hQ hy h1
      have hfree' : ∀ k ok, ops[k]? = some ok → k ≠ i → (listed.setIfInBounds j true).getD k true = false →
          (∀ e ∈ ok.after, Region.binds md e = true → e.on ≠ i) → oi.apart ops ok = true := fun k ok hk hki hun hno => by
        refine hfree k ok hk hki ?_ hno
        by_cases hjk : j = k
        · subst hjk; exact hjun
        · rw [getD_set_ne true hjk] at hun; exact hun
      refine wpOp_mono (fun a' w' h3 => ⟨.inr (.inr ((h3.2.1.resolve_left hjf).resolve_left hfl)), ih (listed.setIfInBounds j true) a' w' (hcl.add hj) hfree' (ready_mono hr (Ne.symm hji)) h3.1 ((h3.2.1.resolve_left hjf).resolve_left hfl) ?_⟩) h2
      rw [Array.setIfInBounds_comm _ _ hji]
      exact h3.2.2

/-- An extract yields the same in whatever world. -/
def pureB : Op → Bool
  | .extract .. => true
  | _ => false
theorem pure_yields {P : Program} {ops : Array Oper} {S : World → Prop} {o : Oper} {v : Value} {a : Act} {w : World} (hp : pureB o.op = true) (hS : S w) (h : YieldsIf P ops S o v a) : YieldsIf P ops (fun _ => True) o v a := by
  rcases h with ⟨hw, h⟩ | h
  · refine .inl ⟨hw, fun w' _ => ?_⟩
    have h1 := h w hS
    cases hop : o.op <;> rw [hop] at hp <;> try cases hp
    unfold execOp at h1 ⊢
    simp only [hop] at h1 ⊢
    unfold Instr.extract at h1 ⊢
    split at h1
    · split at h1
      · simp only [Sem.run_bind, Sem.run_pure, Result.andThen_ok, Result.ok.injEq, and_true] at h1 ⊢
        exact h1
      · simp [stuck, go_sem] at h1
    · simp [stuck, go_sem] at h1
  · exact .inr h
theorem wpAnyF_pure {P : Program} {md : Region.Mode} {ops : Array Oper} {Q : Exit → Act → World → Prop} {S : World → Prop} {f i : Nat} {oi : Oper} {v : Value} (hi : ops[i]? = some oi) (hsel : ∀ (j : Nat) (o : Oper) cs b, ops[j]? = some o → o.op ≠ .select cs b)
    (hQ : ∀ c a w, Q (.panic c) (a.put oi.dst v) w → Q (.panic c) a w) (hif : i ≠ f) :
    ∀ (fuel : Nat) (listed : Array Bool) (a : Act) (w : World), Closed md ops listed →
      (∀ j oj, ops[j]? = some oj → j ≠ i → listed.getD j true = false → (∀ e ∈ oj.after, Region.binds md e = true → e.on ≠ i) → oi.apart ops oj = true) →
      i ∈ Region.ready md ops listed → YieldsIf P ops (fun _ => True) oi v a → (i = f ∨ listed.getD f false = true ∨ S w) →
      wpAnyF P md ops Q S f fuel (listed.setIfInBounds i true) (a.put oi.dst v) w → wpAnyF P md ops Q S f (fuel + 1) listed a w := by
  intro fuel
  induction fuel with
  | zero =>
    intro listed a w _ _ hr hy hS H
    refine ⟨fun h => (by rw [h] at hr; cases hr), fun j hj => ?_⟩
    by_cases hji : j = i
    · subst hji; exact hy.wpOp hi trivial ⟨hS, H⟩
    · have := ready_mono hj hji
      rw [H.1] at this
      cases this
  | succ fuel ih =>
    intro listed a w hcl hfree hr hy hS H
    refine ⟨fun h => (by rw [h] at hr; cases hr), fun j hj => ?_⟩
    by_cases hji : j = i
    · subst hji; exact hy.wpOp hi trivial ⟨hS, H⟩
    · have h1 := H.2 j (ready_mono hj hji)
      obtain ⟨hjun, oj, hoj, hall⟩ := mem_ready.1 hj
      have hun : ¬ listed.getD i false = true := fun h1 => by
        have h0 := (mem_ready.1 hr).1
        rcases Nat.lt_or_ge i listed.size with h' | h'
        · simp [h'] at h0 h1; rw [h0] at h1; cases h1
        · simp [Array.getElem?_eq_none h'] at h1
      have hnot : ∀ e ∈ oj.after, Region.binds md e = true → e.on ≠ i := fun e he hb heq => hun (by rw [← heq]; exact hall e he hb)
      have h2 := wpOp_putIf hoj (hfree j oj hoj hji hjun hnot) (fun cs b => hsel i oi cs b hi) (fun cs b => hsel j oj cs b hoj) hQ hy h1
      have hfree' : ∀ k ok, ops[k]? = some ok → k ≠ i → (listed.setIfInBounds j true).getD k true = false →
          (∀ e ∈ ok.after, Region.binds md e = true → e.on ≠ i) → oi.apart ops ok = true := fun k ok hk hki hun hno => by
        refine hfree k ok hk hki ?_ hno
        by_cases hjk : j = k
        · subst hjk; exact hjun
        · rw [getD_set_ne true hjk] at hun; exact hun
      have hset : (listed.setIfInBounds j true).getD j false = true := by
        rcases Nat.lt_or_ge j listed.size with h' | h'
        · simp [h']
        · simp [Array.getElem?_eq_none h'] at hjun
      refine wpOp_mono (fun a' w' h3 => ⟨?_, ih (listed.setIfInBounds j true) a' w' (hcl.add hj) hfree' (ready_mono hr (Ne.symm hji)) h3.1 ?_ ?_⟩) h2
      · rcases h3.2.1 with h | h | h
        · exact .inl h
        · rw [getD_set_ne false hif] at h
          exact .inr (.inl h)
        · exact .inr (.inr h)
      · rcases h3.2.1 with h | h | h
        · subst h
          exact .inr (.inl hset)
        · rw [getD_set_ne false hif] at h
          exact .inr (.inl (getD_set_true h))
        · exact .inr (.inr h)
      · rw [Array.setIfInBounds_comm _ _ hji]
        exact h3.2.2

theorem wpAnyF_take {P : Program} {md : Region.Mode} {ops : Array Oper} {Q : Exit → Act → World → Prop} {S : World → Prop} {f i n : Nat} {oi : Oper} {v : Value} {fuel : Nat} {listed : Array Bool} {a : Act} {w : World} (hi : ops[i]? = some oi) (hs : Region.noSelect ops = true)
    (hQ : ∀ c a w, Q (.panic c) (a.put oi.dst v) w → Q (.panic c) a w) (hp : (reachB md ops i n f || (i != f && (match ops[i]? with | some o => pureB o.op | none => false))) = true) (hc : Closed md ops listed) (hf : Region.free md ops listed i = true)
    (hr : i ∈ Region.ready md ops listed) (hy : YieldsIf P ops S oi v a) (hS : S w) (h : wpAnyF P md ops Q S f fuel (listed.setIfInBounds i true) (a.put oi.dst v) w) : wpAnyF P md ops Q S f (fuel + 1) listed a w := by
  rw [Bool.or_eq_true, Bool.and_eq_true, bne_iff_ne, hi] at hp
  rcases hp with hp | ⟨hne, hp⟩
  · exact wpAnyF_first hi (Region.noSelect_spec hs) hQ hp fuel listed a w hc (Region.free_spec hi hf) hr hy hS h
  · exact wpAnyF_pure hi (Region.noSelect_spec hs) hQ hne fuel listed a w hc (Region.free_spec hi hf) hr (pure_yields hp hS hy) (.inr (.inr hS)) h
/-- The order is one that serves, with f behind it. -/
def schedF (md : Region.Mode) (ops : Array Oper) (f : Nat) : List (Nat × Bool) → Array Bool → Bool
  | [], listed => (Region.ready md ops listed == [f]) && (Region.ready md ops (listed.setIfInBounds f true)).isEmpty
  | (i, false) :: r, listed => Region.free md ops listed i && ((Region.ready md ops listed).contains i && ((reachB md ops i ops.size f || (i != f && (match ops[i]? with | some o => pureB o.op | none => false))) && schedF md ops f r (listed.setIfInBounds i true)))
  | (i, true) :: r, listed => (Region.ready md ops listed == [i]) && (i != f && schedF md ops f r (listed.setIfInBounds i true))
theorem wpAnyF_of_lex {P : Program} {ops : Array Oper} {Q : Exit → Act → World → Prop} {S : World → Prop} {md : Region.Mode} {f : Nat} (hs : Region.noSelect ops = true)
    (hQ : ∀ c a d v w, Q (.panic c) (Act.put a d v) w → Q (.panic c) a w) :
    ∀ (l : List (Nat × Bool)) (listed : Array Bool) (a : Act) (w : World), schedF md ops f l listed = true → Closed md ops listed → S w → LexH P ops Q S (wpOp P ops Q f (Q .normal)) l a w → wpAnyF P md ops Q S f (l.length + 1) listed a w
  | [], listed, a, w, hb, _, _, h => by
    simp only [schedF, Bool.and_eq_true, beq_iff_eq, List.isEmpty_iff] at hb
    refine ⟨fun h0 => (by rw [h0] at hb; cases hb.1), fun i hi => ?_⟩
    rw [hb.1] at hi
    obtain rfl : i = f := by simpa using hi
    exact wpOp_mono (fun a' w' hh => ⟨.inl rfl, hb.2, hh⟩) h
  | (i, false) :: r, listed, a, w, hb, hc, hS, ⟨o, v, hi, hy, h⟩ => by
    simp only [schedF, Bool.and_eq_true] at hb
    have hr : i ∈ Region.ready md ops listed := by simpa using hb.2.1
    have hrest := wpAnyF_of_lex hs hQ r _ _ w hb.2.2.2 (hc.add hr) hS h
    exact wpAnyF_take hi hs (fun c a w => hQ c a o.dst v w) hb.2.2.1 hc hb.1 hr hy hS hrest
  | (i, true) :: r, listed, a, w, hb, hc, _, h => by
    simp only [schedF, Bool.and_eq_true, beq_iff_eq, bne_iff_ne] at hb
    refine ⟨fun h0 => (by rw [h0] at hb; cases hb.1), fun j hj => ?_⟩
    have hj' := hj
    rw [hb.1] at hj
    obtain rfl : j = i := by simpa using hj
    exact wpOp_mono (fun a' w' hh => ⟨.inr (.inr hh.1), wpAnyF_of_lex hs hQ r _ a' w' hb.2.2 (hc.add hj') hh.1 hh.2⟩) h

/-- A region whose last operation f may turn what was read: S need not hold behind it. -/
theorem wp_region_lexF {P : Program} {id : Nat} {l : List Oper} {Q : Exit → Act → World → Prop} {a : Act} {w : World} (S : World → Prop) (order : List (Nat × Bool)) (f : Nat) (hm : P.follows .mixedOrders = true)
    (hs : Region.noSelect l.toArray = true) (hn : order.length + 1 = l.toArray.size) (hb : schedF .any l.toArray f order (Array.replicate l.toArray.size false) = true)
    (hS : S w.drew) (h : ∀ W, W = w.drew → S W → LexH P l.toArray (NoPanic Q) S (wpOp P l.toArray (NoPanic Q) f (NoPanic Q .normal)) order a W) : (Code.region id l.toArray true).wp P Q a w :=
  wp_region_noPanic (wp_region_any hm (wpAny_of_F _ _ _ _ (hn ▸ wpAnyF_of_lex hs (fun _ _ _ _ _ h => h) order _ a _ hb (Closed.start _ _ _) hS (h _ rfl hS))))

section
variable {P : Program} {ops : Array Oper} {Q : Exit → Act → World → Prop} {S : World → Prop} {K : Act → World → Prop} {i : Nat} {r : List (Nat × Bool)} {a : Act} {w : World}
/-- An operation that yields. -/
theorem lexH_yield {o : Oper} {v : Value} (hi : ops[i]? = some o) (hw : Region.wanted o (yielded ops a.tmps) = true) (hv : ∀ W, S W → (execOp a.eval o).run P W = .ok (.value v) W) (h : LexH P ops Q S K r (a.put o.dst v) w) : LexH P ops Q S K ((i, false) :: r) a w :=
  ⟨o, v, hi, .inl ⟨hw, hv⟩, h⟩
theorem lexH_yieldE {o : Oper} (hi : ops[i]? = some o) (hw : Region.wanted o (yielded ops a.tmps) = true) (h : ∃ v, (∀ W, S W → (execOp a.eval o).run P W = .ok (.value v) W) ∧ LexH P ops Q S K r (a.put o.dst v) w) : LexH P ops Q S K ((i, false) :: r) a w :=
  let ⟨_, hv, h⟩ := h
  lexH_yield hi hw hv h
/-- A load. -/
theorem lexH_load {o : Oper} {v : Value} (hi : ops[i]? = some o) (hw : Region.wanted o (yielded ops a.tmps) = true) (ty : TypeId) (x : Operand) (ho : o.op = .load ty x) {p : Addr} (hx : a.eval x = .pointer (some p))
    (hv : ∀ W, S W → (loadVar ty p).run P W = .ok v W) (h : LexH P ops Q S K r (a.put o.dst v) w) : LexH P ops Q S K ((i, false) :: r) a w :=
  lexH_yield hi hw (fun W hW => by unfold execOp; simp only [ho, hx, Instr.loadAt, Instr.sureAddr, Sem.run_bind, Sem.run_pure, Result.andThen_ok, hv W hW]) h
/-- A conversion. -/
theorem lexH_conv {o : Oper} {v : Value} (hi : ops[i]? = some o) (hw : Region.wanted o (yielded ops a.tmps) = true) (src dst : TypeId) (x : Operand) (ho : o.op = .convert src dst x) {u : Value} (hx : a.eval x = u)
    (hv : ∀ W, S W → (convert src dst u).run P W = .ok v W) (h : LexH P ops Q S K r (a.put o.dst v) w) : LexH P ops Q S K ((i, false) :: r) a w :=
  lexH_yield hi hw (fun W hW => by unfold execOp; simp only [ho, hx, Sem.run_bind, Sem.run_pure, Result.andThen_ok, hv W hW]) h
/-- A step that is met as it is. -/
theorem lexH_eff {o : Oper} (hi : ops[i]? = some o) (hw : Region.wanted o (yielded ops a.tmps) = true)
    (h : o.wp P a w (fun a' w' => S w' ∧ LexH P ops Q S K r a' w') Q) : LexH P ops Q S K ((i, true) :: r) a w := by
  show wpOp P ops Q i _ a w
  unfold wpOp
  simp only [hi, hw, if_true]
  exact .inl h
/-- A conversion of what lies where it lies now. -/
theorem lexH_convT {o : Oper} {v : Value} (hi : ops[i]? = some o) (hw : Region.wanted o (yielded ops a.tmps) = true) (src dst : TypeId) (x : Operand) (ho : o.op = .convert src dst x) {u : Value} (hx : a.eval x = u)
    (hv : (convert src dst u).run P w = .ok v w) (hS : S w) (h : LexH P ops Q S K r (a.put o.dst v) w) : LexH P ops Q S K ((i, true) :: r) a w := by
  refine lexH_eff hi hw ?_
  unfold Oper.wp execOp
  simp only [ho, hx, Sem.run_bind, Sem.run_pure, Result.andThen_ok, hv]
  exact ⟨hS, h⟩
/-- One that is passed over. -/
theorem lexH_skip {o : Oper} (hi : ops[i]? = some o) (hw : Region.wanted o (yielded ops a.tmps) = false) (h : LexH P ops Q S K r (a.put o.dst undef) w) : LexH P ops Q S K ((i, false) :: r) a w :=
  ⟨o, undef, hi, .inr ⟨hw, rfl⟩, h⟩
theorem lexH_pass {o : Oper} (hi : ops[i]? = some o) (hw : Region.wanted o (yielded ops a.tmps) = false) (hS : S w) (h : LexH P ops Q S K r (a.put o.dst undef) w) : LexH P ops Q S K ((i, true) :: r) a w := by
  show wpOp P ops Q i _ a w
  unfold wpOp
  simp only [hi, hw, Bool.false_eq_true, if_false]
  exact ⟨hS, h⟩
/-- A call. -/
theorem lexH_call (f : FuncId) (args : Array Value) {o : Oper} (hi : ops[i]? = some o) (hw : Region.wanted o (yielded ops a.tmps) = true) (hr : (execOp a.eval o).run P w = .ok (.enter f args) w)
    (h : Calls P f args w fun e w' => ∃ v, e = .returned v ∧ S w' ∧ LexH P ops Q S K r (a.put o.dst v) w') : LexH P ops Q S K ((i, true) :: r) a w := by
  show wpOp P ops Q i _ a w
  unfold wpOp
  simp only [hi, hw, if_true]
  refine .inl ?_
  unfold Oper.wp
  rw [hr]
  simp only [Oper.upon]
  refine h.mono ?_
  rintro e w' ⟨v, rfl, h1, h2⟩
  exact ⟨h1, h2⟩
theorem lexH_nil {Q : Exit → Act → World → Prop} (h : Q .normal a w) : LexH P ops (NoPanic Q) S (NoPanic Q .normal) [] a w := NoPanic.normal h
/-- The region's last operation, where it may turn what was read. -/
theorem lexH_last {Q : Exit → Act → World → Prop} {f : Nat} {o : Oper} (hi : ops[f]? = some o) (hw : Region.wanted o (yielded ops a.tmps) = true) (h : o.wp P a w (fun a' w' => Q .normal a' w') (NoPanic Q)) :
    LexH P ops (NoPanic Q) S (wpOp P ops (NoPanic Q) f (NoPanic Q .normal)) [] a w := by
  show wpOp P ops (NoPanic Q) f _ a w
  unfold wpOp
  simp only [hi, hw, if_true]
  exact .inl (Oper.wp_mono (fun _ _ h => NoPanic.normal h) h)
end
end
/-! append, slices of a slice, and the last store in a region that draws its order. Of no program. -/
section
open Go.RowKit Go

theorem run_sub_to {P : Program} {t e : TypeId} {s : Nat} (ht : P.underlying t = some (.slice e)) (hs : ∀ w, (sizeOf e).run P w = .ok s w) (g o len cap h : Nat) (hh : h ≤ cap) (W : World) :
    (Instr.sliceAt t (.slice (some ⟨g, o, none⟩) len cap) none (some (.int .i64 h)) none).run P W = .ok (.slice (some ⟨g, o, none⟩) h cap) W := by
  have he : P.elem t = e := by simp [Program.elem, ht]
  rw [run_sliceAt_slice W t _ _ _ _ (by rw [he]; exact ht), run_slice_h W t _ len cap (by rw [he]; exact ht) .i64 h (by omega) (by omega), he, hs]
  simp [Result.andThen, sliced, Addr.add_lit]
theorem run_sub_from {P : Program} {t e : TypeId} {s : Nat} (ht : P.underlying t = some (.slice e)) (hs : ∀ w, (sizeOf e).run P w = .ok s w) (g o len cap l : Nat) (hl : l ≤ len) (W : World) :
    (Instr.sliceAt t (.slice (some ⟨g, o, none⟩) len cap) (some (.int .i64 l)) none none).run P W = .ok (.slice (some (if cap = l then ⟨g, o, none⟩ else ⟨g, o + l * s, none⟩)) (len - l) (cap - l)) W := by
  have he : P.elem t = e := by simp [Program.elem, ht]
  rw [run_sliceAt_slice W t _ _ _ _ (by rw [he]; exact ht), run_slice_l W t _ len cap (by rw [he]; exact ht) .i64 l (by omega) (by omega), he, hs]
  simp only [Result.andThen, sliced, Int.toNat_natCast, Option.map_some, Addr.add_lit]
  split <;> rfl

section
variable {P : Program} {ops : Array Oper} {Q : Exit → Act → World → Prop} {S : World → Prop} {K : Act → World → Prop} {i : Nat} {r : List (Nat × Bool)} {a : Act}
/-- A slice of what is no memory's. -/
theorem lexH_slice {w : World} {o : Oper} {v : Value} (hi : ops[i]? = some o) (hw : Region.wanted o (yielded ops a.tmps) = true) (t : TypeId) (x : Operand) (lo hh mx : Option Operand) (ho : o.op = .slice t x lo hh mx)
    (hv : ∀ W, S W → (Instr.sliceAt t (a.eval x) (lo.map a.eval) (hh.map a.eval) (mx.map a.eval)).run P W = .ok v W) (h : LexH P ops Q S K r (a.put o.dst v) w) : LexH P ops Q S K ((i, false) :: r) a w :=
  lexH_yield hi hw (fun W hW => by unfold execOp; simp only [ho, Sem.run_bind, Sem.run_pure, Result.andThen_ok, hv W hW]) h
theorem wp_append_src (w : World) {o : Oper} {K : Act → World → Prop} (s x : Operand) (t : TypeId)
    (ho : o.op = .call { callee := .builtin .append, args := #[s, x], argTypes := #[t, t] })
    (base : Nat) (e : TypeId) (ti : TypeInfo) (z : Value) (size bytes : Nat) (ht : P.underlying t = some (.slice e)) (hti : P.info? e = some ti) (hz : ti.zero = some z)
    (hsize : ti.size = size) (hby : ti.bytes = bytes) (hzs : z.cells.size = size) (hsz : 0 < size)
    (v : Value) (n : Nat) (xs : List Value) (hown : w.ownsRow base e size v n xs) (hbase : base ≤ w.heap.size)
    (A : Option Addr) (m c : Nat) (news : List Value) (hs : a.eval s = v) (hx : a.eval x = .slice A m c) (hl : news.length = m * size) (hsrc : 0 < m → ∃ ad, A = some ad ∧ ∀ j u, news[j]? = some u → w.cell? (ad.add j) = some u) (h1 : ∀ u ∈ news, u.oneCell' = true)
    (hnm : n + m ≤ 3001) (hb : bytes ≤ 1000)
    (h : ∀ v' w', w'.ownsRow base e size v' (n + m) (xs ++ news) → Only (fun k => v.ownBlock = some k) w w' → (v' = .slice none 0 0 ↔ v = .slice none 0 0 ∧ m = 0) → K (a.put o.dst v') w') : o.wp P a w K Q := by
  obtain ⟨v', w', hr, h2, h3, h4⟩ := run_append_own_src (P := P) w base t o.type e ti z size bytes ht hti hz hsize hby hzs hsz v n xs hown A m c news hl hsrc h1 (by unfold maxLen; omega) (Nat.le_trans (Nat.mul_le_mul hnm hb) (by decide)) hbase
  unfold Oper.wp execOp
  simp only [ho, resolve, invoke, builtin, Sem.run_bind, Sem.run_pure, Result.andThen_ok, List.map_toArray, List.map_cons, List.map_nil, hs, hx, hr]
  exact h v' w' h2 (Only.of_grown h3) h4
theorem lexH_append_src (w : World) {o : Oper} (hi : ops[i]? = some o) (hw : Region.wanted o (yielded ops a.tmps) = true) (s x : Operand) (t : TypeId)
    (ho : o.op = .call { callee := .builtin .append, args := #[s, x], argTypes := #[t, t] })
    (base : Nat) (e : TypeId) (ti : TypeInfo) (z : Value) (size bytes : Nat) (ht : P.underlying t = some (.slice e)) (hti : P.info? e = some ti) (hz : ti.zero = some z)
    (hsize : ti.size = size) (hby : ti.bytes = bytes) (hzs : z.cells.size = size) (hsz : 0 < size)
    (v : Value) (n : Nat) (xs : List Value) (hown : w.ownsRow base e size v n xs) (hbase : base ≤ w.heap.size)
    (A : Option Addr) (m c : Nat) (news : List Value) (hs : a.eval s = v) (hx : a.eval x = .slice A m c) (hl : news.length = m * size) (hsrc : 0 < m → ∃ ad, A = some ad ∧ ∀ j u, news[j]? = some u → w.cell? (ad.add j) = some u) (h1 : ∀ u ∈ news, u.oneCell' = true)
    (hnm : n + m ≤ 3001) (hb : bytes ≤ 1000)
    (h : ∀ v' w', w'.ownsRow base e size v' (n + m) (xs ++ news) → Only (fun k => v.ownBlock = some k) w w' → (v' = .slice none 0 0 ↔ v = .slice none 0 0 ∧ m = 0) → S w' ∧ LexH P ops Q S K r (a.put o.dst v') w') : LexH P ops Q S K ((i, true) :: r) a w :=
  lexH_eff hi hw (wp_append_src w s x t ho base e ti z size bytes ht hti hz hsize hby hzs hsz v n xs hown hbase A m c news hs hx hl hsrc h1 hnm hb h)
end
end
/-! buddy's document: drop, put, New. -/
section
open Go.RowKit Go

theorem infoBlock : (Try.prog.info? 77).map (fun i => (i.zero, i.size, i.bytes)) = some (some (.agg #[.int .i64 0, .int .i64 0]), 2, 16) := by kernel_rfl
/-- A block's cells. -/
def encB (p : Int × Int) : List Value := [.int .i64 p.1, .int .i64 p.2]
theorem encB_len : ∀ p, (encB p).length = 2 := fun _ => rfl
theorem encB_one : ∀ p, ∀ u ∈ encB p, u.oneCell' = true := by
  intro p u h
  simp [encB] at h
  rcases h with rfl | rfl <;> rfl
theorem block_one (x y : Int) : ∀ u, u ∈ (#[Value.int .i64 x, .int .i64 y] : Array Value).toList → u.oneCell' = true := encB_one (x, y)
def dropL (L : List (Int × Int)) (x : Int × Int) : List (Int × Int) := L.filter fun y => !(y == x)
theorem take_next {α : Type} {L : List α} {k : Nat} (h : k < L.length) : L.take (k + 1) = L.take k ++ [L[k]] := by
  rw [List.take_add_one, List.getElem?_eq_getElem h]; rfl

theorem sizeBlock : (Try.prog.info? 77).map (·.size) = some 2 := by kernel_rfl
theorem load_block {W : World} {g o : Nat} {x y : Int} (h0 : W.cell? ⟨g, o, none⟩ = some (.int .i64 x)) (h1 : W.cell? ⟨g, o + 1, none⟩ = some (.int .i64 y)) :
    (loadVar 77 ⟨g, o, none⟩).run Try.prog W = .ok (.agg #[.int .i64 x, .int .i64 y]) W :=
  run_loadVar_mid (P := Try.prog) W g o 77 [.int .i64 x, .int .i64 y] _ (fun j v hj => by
    match j, hj with
    | 0, hj => simp at hj; subst hj; exact h0
    | 1, hj => simp at hj; subst hj; exact h1) Try.underlying77 rfl sizeBlock
theorem ite_eqB {β : Type} (A : Bool → β) (p : Int × Int) (x y : Int) : (if p.1 = x then if p.2 = y then A true else A false else A false) = A (p == (x, y)) := by
  obtain ⟨a, b⟩ := p
  by_cases h1 : a = x
  · by_cases h2 : b = y
    · subst h1; subst h2; simp
    · have : ((a, b) == (x, y)) = false := by simp [h2]
      rw [this, if_pos h1, if_neg h2]
  · have : ((a, b) == (x, y)) = false := by simp [h1]
    rw [this, if_neg h1]
theorem dropL_yes {L : List (Int × Int)} {k : Nat} (hk : k < L.length) {x : Int × Int} (h : (L[k] == x) = true) : dropL (L.take (k + 1)) x = dropL (L.take k) x ∧ (L.take (k + 1)).contains x = true := by
  rw [take_next hk]
  unfold dropL
  rw [List.filter_append, List.filter_cons_of_neg (by simp [h]), List.filter_nil, List.append_nil]
  refine ⟨rfl, ?_⟩
  rw [eq_of_beq h]
  simp
theorem dropL_no {L : List (Int × Int)} {k : Nat} (hk : k < L.length) {x : Int × Int} (h : (L[k] == x) = false) : dropL (L.take (k + 1)) x = dropL (L.take k) x ++ [L[k]] ∧ (L.take (k + 1)).contains x = (L.take k).contains x := by
  rw [take_next hk]
  unfold dropL
  rw [List.filter_append, List.filter_cons_of_pos (by simp [h]), List.filter_nil]
  refine ⟨rfl, ?_⟩
  have h2 : ¬ x = L[k] := fun e => by rw [e, beq_self_eq_true] at h; cases h
  refine Bool.eq_iff_iff.2 ?_
  rw [List.contains_iff_mem, List.contains_iff_mem, List.mem_append, List.mem_singleton]
  exact ⟨fun h => h.resolve_right h2, .inl⟩
theorem dropL_len (L : List (Int × Int)) (x : Int × Int) : (dropL L x).length ≤ L.length := List.length_filter_le _ _
/-- What drop leaves. -/
def DropAt (w : World) (L : List (Int × Int)) (x : Int × Int) (e : Ending) (w' : World) : Prop :=
  ∃ a' c', e = .returned (.tuple #[.slice a' (dropL L x).length c', .bool (L.contains x)]) ∧ RecsAt w' w.heap.size a' encB 2 (dropL L x) ∧ Below w.heap.size w w'

set_option maxRecDepth 100000 in
set_option maxHeartbeats 1000000 in
theorem drop_any {w : World} {B : Nat} {a : Option Addr} {L : List (Int × Int)} (S : RecsAt w B a encB 2 L) (hl : L.length ≤ 900) (c : Nat) (x : Int × Int) :
    Calls Try.prog 58 #[.slice a L.length c, .agg #[.int .i64 x.1, .int .i64 x.2]] w (DropAt w L x) := by
  obtain ⟨i0, hi, hz0, hz1, hz2⟩ := info_parts infoBlock
  obtain ⟨x1, x2⟩ := x
  have hb : Below w.heap.size w (w.alloc (.cells #[.int .i64 x1, .int .i64 x2] 77)) := (Below.refl _ w).alloc (Nat.le_refl _) _
  have HB0 := Lib.hid hb
  have HS0 := Lib.hid (S.later hb)
  have HX0 := Lib.hid (RowAt.new w #[.int .i64 x1, .int .i64 x2] 77 2 (fun i => if i = 0 then .int .i64 x1 else .int .i64 x2) (fun i hi => by
    rcases (show i = 0 ∨ i = 1 by omega) with rfl | rfl <;> rfl))
  clear hb S
  go_enter Try.func58, Try.ntmps58
  go_wp2_with (fail)
  generalize hxb : w.heap.size = xb at *
  generalize w.alloc (.cells #[.int .i64 x1, .int .i64 x2] 77) = w1 at *
  go_loopw [6, 7, 8] (fun v t i wr => ∃ k : Nat, k ≤ L.length ∧ i = .int .i64 k ∧ t = .bool ((L.take k).contains (x1, x2)) ∧ Hid (wr.ownsRow w1.heap.size 77 2 v (dropL (L.take k) (x1, x2)).length (recV encB (dropL (L.take k) (x1, x2)))) ∧ Below w1.heap.size w1 wr) (fun _ _ i _ => L.length - (intOf i).toNat)
  case atStart => exact ⟨0, Nat.zero_le _, rfl, rfl, World.ownsRow_nil _ _ _ _, Below.refl _ _⟩
  case round =>
    obtain ⟨k, hk, rfl, rfl, HO, hB⟩ := hrel
    have HB := Lib.hid hB
    clear hB
    by_cases hlt : k < L.length
    · obtain ⟨g, rfl, _, _, hr⟩ := (HS0.out.later HB.out).get encB_len k hlt
      have c0 : wr.cell? ⟨g, k * 2, none⟩ = some (.int .i64 L[k].1) := hr 0 _ rfl
      have c1 : wr.cell? ⟨g, k * 2 + 1, none⟩ = some (.int .i64 L[k].2) := hr 1 _ rfl
      have d0 : wr.cell? ⟨xb, 0, none⟩ = some (.int .i64 x1) := (HX0.out.later HB.out).cell 0 (by decide)
      have d1 : wr.cell? ⟨xb, 1, none⟩ = some (.int .i64 x2) := (HX0.out.later HB.out).cell 1 (by decide)
      clear hr
      have L1 := Lib.hid (show ∀ W, Kept wr.heap.size wr W → (loadVar 77 ⟨g, k * 2, none⟩).run Try.prog W = .ok (.agg #[.int .i64 L[k].1, .int .i64 L[k].2]) W from
        fun W hW => load_block (by rw [hW.cell (World.block_lt_of_cell? _ _ c0)]; exact c0) (by rw [hW.cell (World.block_lt_of_cell? _ _ c1)]; exact c1))
      have L2 := Lib.hid (show ∀ W, Kept wr.heap.size wr W → (loadVar 77 ⟨xb, 0, none⟩).run Try.prog W = .ok (.agg #[.int .i64 x1, .int .i64 x2]) W from
        fun W hW => load_block (by rw [hW.cell (World.block_lt_of_cell? _ _ d0)]; exact d0) (by rw [hW.cell (World.block_lt_of_cell? _ _ d1)]; exact d1))
      go_wp2_with (fail)
      refine wp_region_lex1 (Kept wr.heap.size wr) [(0, false), (1, false), (2, false), (3, false), (4, false), (5, false)]
        (by kernel_rfl) (by kernel_rfl) rfl (by kernel_rfl) (Below.refl _ wr).drew ?_
      intro W0 hW0 hK0
      clear hW0
      refine lexH_yieldE rfl rfl ?_
      apply Exists.intro
      refine ⟨fun W hW => ?_, ?_⟩
      focus (go_simp; exact rfl)
      simp only [List.getElem_toArray, List.getElem_cons_zero, Act.put, List.setIfInBounds_toArray, List.set_cons_zero, List.set_cons_succ]
      refine lexH_yieldE rfl rfl ?_
      apply Exists.intro
      refine ⟨fun W hW => ?_, ?_⟩
      focus (go_simp; exact rfl)
      simp only [List.getElem_toArray, List.getElem_cons_succ, List.getElem_cons_zero, Act.put, List.setIfInBounds_toArray, List.set_cons_zero, List.set_cons_succ]
      refine lexH_yieldE rfl rfl ?_
      apply Exists.intro
      refine ⟨fun W hW => ?_, ?_⟩
      focus (go_simp; exact rfl)
      simp only [List.getElem_toArray, List.getElem_cons_succ, List.getElem_cons_zero, Act.put, List.setIfInBounds_toArray, List.set_cons_zero, List.set_cons_succ]
      refine lexH_load rfl rfl _ _ rfl rfl L1.out ?_
      simp only [List.getElem_toArray, List.getElem_cons_succ, List.getElem_cons_zero, Act.put, List.setIfInBounds_toArray, List.set_cons_zero, List.set_cons_succ]
      refine lexH_load rfl rfl _ _ rfl rfl L2.out ?_
      simp only [List.getElem_toArray, List.getElem_cons_succ, List.getElem_cons_zero, Act.put, List.setIfInBounds_toArray, List.set_cons_zero, List.set_cons_succ]
      refine lexH_yield rfl rfl (v := .bool (L[k] == (x1, x2))) (fun W hW => ?_) ?_
      focus (go_simp; exact ite_eqB (fun b => Result.ok (Next.value (Value.bool b)) W) L[k] x1 x2)
      simp only [List.getElem_toArray, List.getElem_cons_succ, List.getElem_cons_zero, Act.put, List.setIfInBounds_toArray, List.set_cons_zero, List.set_cons_succ]
      refine lexH_nil ?_
      have HB2 := Lib.hid (show Below w1.heap.size w1 W0 from HB.out.trans (hK0.below.mono HB.out.size))
      have HO2 := Lib.hid (owns_later HO.out hK0.below)
      have c0 : W0.cell? ⟨g, k * 2, none⟩ = some (.int .i64 L[k].1) := by rw [hK0.cell (World.block_lt_of_cell? _ _ c0)]; exact c0
      have c1 : W0.cell? ⟨g, k * 2 + 1, none⟩ = some (.int .i64 L[k].2) := by rw [hK0.cell (World.block_lt_of_cell? _ _ c1)]; exact c1
      have HDL := Lib.hid (Nat.le_trans (dropL_len (L.take k) (x1, x2)) (show (L.take k).length ≤ 900 by rw [List.length_take]; omega))
      clear d0 d1 L1 L2 hK0 HB HO
      cases hq : (L[k] == (x1, x2)) with
      | true =>
        obtain ⟨q1, q2⟩ := dropL_yes hlt hq
        have HQ1 := Lib.hid q1
        have HQ2 := Lib.hid q2
        clear q1 q2 hq
        go_wp2_with (fail)
        go_roundw
        case rel => exact ⟨k + 1, hlt, by go_num, by rw [HQ2.out], by rw [HQ1.out]; exact HO2, HB2.out⟩
        case measure => simp [intOf]; omega
      | false =>
        obtain ⟨q1, q2⟩ := dropL_no hlt hq
        have HQ1 := Lib.hid q1
        have HQ2 := Lib.hid q2
        clear q1 q2 hq
        go_wp2_with (at_builtin; refine wpList_append_one W0 rfl _ _ 74 rfl w1.heap.size 77 i0 _ 2 16 Try.underlying74 hi hz0 hz1 hz2 rfl (by decide) _ _ _ #[.int .i64 L[k].1, .int .i64 L[k].2] HO2.out HB2.out.size rfl rfl rfl (block_one _ _) (Nat.le_trans HDL.out (by decide)) (by decide) ?_)
        intro v' w3 hown ho _
        have HO3 := Lib.hid (show w3.ownsRow w1.heap.size 77 2 v' (dropL (L.take (k + 1)) (x1, x2)).length (recV encB (dropL (L.take (k + 1)) (x1, x2))) by
          rw [HQ1.out, List.length_append, recV_append, recV_single]
          exact hown)
        have HB3 := Lib.hid (ho.below HB2.out HB2.out.size (fun j hj => (HO2.out.lt j hj).1))
        clear hown ho HO2 HB2 c0 c1
        go_wp2_with (fail)
        go_roundw
        case rel => exact ⟨k + 1, hlt, by go_num, by rw [HQ2.out]; simp, HO3, HB3.out⟩
        case measure => simp [intOf]; omega
    · obtain rfl : k = L.length := by omega
      have HO2 := HO.out
      rw [List.take_length] at HO2
      obtain ⟨a', c', rfl, hr⟩ := RecsAt.of_owns HO2
      have HN := Lib.hid (show DropAt w L (x1, x2) (.returned (.tuple #[.slice a' (dropL L (x1, x2)).length c', .bool (L.contains (x1, x2))])) wr from
        ⟨a', c', rfl, hr.base HB0.out.size, by rw [hxb]; exact HB0.out.trans (HB.out.mono (by rw [← hxb]; exact HB0.out.size))⟩)
      clear HO HO2 hr HB HB0 HS0 HX0
      rw [List.take_length]
      go_wp2_with (fail)
      go_ret2
      exact HN.out

/-- One step of put: a list and whether x is in it. -/
def stepP (x : Int × Int) (s : List (Int × Int) × Bool) (y : Int × Int) : List (Int × Int) × Bool := if s.2 = false ∧ x.1 < y.1 then (s.1 ++ [x] ++ [y], true) else (s.1 ++ [y], s.2)
def putS (L : List (Int × Int)) (x : Int × Int) (k : Nat) : List (Int × Int) × Bool := (L.take k).foldl (stepP x) ([], false)
def putL (L : List (Int × Int)) (x : Int × Int) : List (Int × Int) := if (putS L x L.length).2 = true then (putS L x L.length).1 else (putS L x L.length).1 ++ [x]
theorem putS_next {L : List (Int × Int)} {x : Int × Int} {k : Nat} (h : k < L.length) : putS L x (k + 1) = stepP x (putS L x k) L[k] := by
  unfold putS
  rw [take_next h, List.foldl_append]; rfl
theorem putS_len (L : List (Int × Int)) (x : Int × Int) : ∀ k, k ≤ L.length → (putS L x k).1.length = k + (if (putS L x k).2 = true then 1 else 0)
  | 0, _ => rfl
  | k + 1, h => by
    have ih := putS_len L x k (by omega)
    rw [putS_next (by omega)]
    unfold stepP
    by_cases hc : (putS L x k).2 = false ∧ x.1 < L[k].1
    · rw [if_pos hc]
      rw [hc.1] at ih
      simp at ih ⊢
      omega
    · rw [if_neg hc]
      simp at ih ⊢
      omega

def brV (n : Nat) (v u : Value) (i : Nat) : Value := if i = 0 then .int .i64 n else if i = 1 then v else u
/-- The document's node at r: its free blocks, its taken ones. -/
structure BRef (w : World) (r n : Nat) (L T : List (Int × Int)) (v u : Value) : Prop where
  row : RowAt w r 3 (brV n v u)
  fr : ∃ a c, v = .slice a L.length c ∧ RecsAt w (r + 1) a encB 2 L
  tk : ∃ a c, u = .slice a T.length c ∧ RecsAt w (r + 1) a encB 2 T
section
variable {w w' : World} {r n : Nat} {L T : List (Int × Int)} {v u : Value}
theorem BRef.later (R : BRef w r n L T v u) (h : Below w.heap.size w w') : BRef w' r n L T v u := by
  obtain ⟨a, c, e, hf⟩ := R.fr
  obtain ⟨b, d, e2, ht⟩ := R.tk
  exact ⟨R.row.later h, ⟨a, c, e, hf.later h⟩, ⟨b, d, e2, ht.later h⟩⟩
theorem BRef.only {S : Nat → Prop} (R : BRef w r n L T v u) (h : Only S w w') (hs : ∀ k, r ≤ k → ¬ S k) : BRef w' r n L T v u := by
  obtain ⟨a, c, e, hf⟩ := R.fr
  obtain ⟨b, d, e2, ht⟩ := R.tk
  refine ⟨R.row.only h (hs r (Nat.le_refl _)), ⟨a, c, e, fun hp => ?_⟩, ⟨b, d, e2, fun hp => ?_⟩⟩
  · obtain ⟨g, e, hg, hlt, A, t, hA, hi⟩ := hf hp
    exact ⟨g, e, hg, Nat.lt_of_lt_of_le hlt h.size, A, t, by rw [h.block g hlt (hs g (by omega))]; exact hA, hi⟩
  · obtain ⟨g, e, hg, hlt, A, t, hA, hi⟩ := ht hp
    exact ⟨g, e, hg, Nat.lt_of_lt_of_le hlt h.size, A, t, by rw [h.block g hlt (hs g (by omega))]; exact hA, hi⟩
theorem BRef.c0 (R : BRef w r n L T v u) : w.cell? ⟨r, 0, none⟩ = some (.int .i64 n) := R.row.cell 0 (by decide)
theorem BRef.c1 (R : BRef w r n L T v u) : w.cell? ⟨r, 1, none⟩ = some v := R.row.cell 1 (by decide)
theorem BRef.c2 (R : BRef w r n L T v u) : w.cell? ⟨r, 2, none⟩ = some u := R.row.cell 2 (by decide)
theorem BRef.lt (R : BRef w r n L T v u) : r < w.heap.size := R.row.lt
/-- Its free blocks laid anew. -/
theorem BRef.setF (R : BRef w r n L T v u) {L' : List (Int × Int)} {a : Option Addr} {c : Nat} (h : RecsAt w (r + 1) a encB 2 L') : BRef (w.setCell ⟨r, 1, none⟩ (.slice a L'.length c)) r n L' T (.slice a L'.length c) u := by
  obtain ⟨b, d, e2, ht⟩ := R.tk
  have ho := Only.setCell (S := Eq r) w ⟨r, 1, none⟩ rfl (.slice a L'.length c)
  refine ⟨(R.row.setCell 1 _).ext (fun i hi => ?_), ⟨a, c, rfl, fun hp => ?_⟩, ⟨b, d, e2, fun hp => ?_⟩⟩
  · unfold updV brV
    rcases (show i = 0 ∨ i = 1 ∨ i = 2 by omega) with rfl | rfl | rfl <;> simp
  · obtain ⟨g, e, hg, hlt, A, t, hA, hi⟩ := h hp
    exact ⟨g, e, hg, Nat.lt_of_lt_of_le hlt ho.size, A, t, by rw [ho.block g hlt (by omega)]; exact hA, hi⟩
  · obtain ⟨g, e, hg, hlt, A, t, hA, hi⟩ := ht hp
    exact ⟨g, e, hg, Nat.lt_of_lt_of_le hlt ho.size, A, t, by rw [ho.block g hlt (by omega)]; exact hA, hi⟩

/-- What a call that turns the free blocks leaves. -/
def PutAt (w : World) (r n : Nat) (L' T : List (Int × Int)) (u : Value) (w' : World) : Prop := ∃ a' c', BRef w' r n L' T (.slice a' L'.length c') u ∧ RecsAt w' w.heap.size a' encB 2 L' ∧ Only (Eq r) w w'

set_option maxRecDepth 100000 in
set_option maxHeartbeats 2000000 in
theorem put_any (R : BRef w r n L T v u) (hl : L.length ≤ 900) (x : Int × Int) :
    Calls Try.prog 59 #[.pointer (some ⟨r, 0, none⟩), .agg #[.int .i64 x.1, .int .i64 x.2]] w fun e w' => e = .returned (.tuple #[]) ∧ PutAt w r n (putL L x) T u w' := by
  obtain ⟨i0, hi, hz0, hz1, hz2⟩ := info_parts infoBlock
  obtain ⟨x1, x2⟩ := x
  have hb : Below w.heap.size w (w.alloc (.cells #[.int .i64 x1, .int .i64 x2] 77)) := (Below.refl _ w).alloc (Nat.le_refl _) _
  have HB0 := Lib.hid hb
  have HR0 := Lib.hid (R.later hb)
  have HLT := Lib.hid R.lt
  have HX0 := Lib.hid (RowAt.new w #[.int .i64 x1, .int .i64 x2] 77 2 (fun i => if i = 0 then .int .i64 x1 else .int .i64 x2) (fun i hi => by
    rcases (show i = 0 ∨ i = 1 by omega) with rfl | rfl <;> rfl))
  obtain ⟨a, c, hv, hS⟩ := R.fr
  have HV := Lib.hid hv
  have HS0 := Lib.hid (hS.later hb)
  clear hb R hS hv
  go_enter Try.func59, Try.ntmps59
  go_wp2_with (fail)
  generalize hxb : w.heap.size = xb at *
  generalize w.alloc (.cells #[.int .i64 x1, .int .i64 x2] 77) = w1 at *
  go_loopw [4, 5, 6] (fun o t i wr => ∃ k : Nat, k ≤ L.length ∧ i = .int .i64 k ∧ t = .bool (putS L (x1, x2) k).2 ∧ Hid (wr.ownsRow w1.heap.size 77 2 o (putS L (x1, x2) k).1.length (recV encB (putS L (x1, x2) k).1)) ∧ Below w1.heap.size w1 wr) (fun _ _ i _ => L.length - (intOf i).toNat)
  case atStart => exact ⟨0, Nat.zero_le _, rfl, rfl, World.ownsRow_nil _ _ _ _, Below.refl _ _⟩
  case round =>
    obtain ⟨k, hk, rfl, rfl, HO, hB⟩ := hrel
    have HB := Lib.hid hB
    clear hB
    have c1 := (HR0.out.later HB.out).c1
    rw [HV.out] at c1
    have hlen := putS_len L (x1, x2) k hk
    have HLN := Lib.hid (show (putS L (x1, x2) k).1.length ≤ 901 by split at hlen <;> omega)
    clear hlen
    have d0 : wr.cell? ⟨xb, 0, none⟩ = some (.int .i64 x1) := (HX0.out.later HB.out).cell 0 (by decide)
    have d1 : wr.cell? ⟨xb, 1, none⟩ = some (.int .i64 x2) := (HX0.out.later HB.out).cell 1 (by decide)
    by_cases hlt : k < L.length
    · obtain ⟨g, rfl, _, _, hr⟩ := (HS0.out.later HB.out).get encB_len k hlt
      have e0 : wr.cell? ⟨g, k * 2, none⟩ = some (.int .i64 L[k].1) := hr 0 _ rfl
      have e1 : wr.cell? ⟨g, k * 2 + 1, none⟩ = some (.int .i64 L[k].2) := hr 1 _ rfl
      have HN := Lib.hid (putS_next (x := (x1, x2)) hlt)
      clear hr
      cases hd : (putS L (x1, x2) k).2 with
      | true =>
        have HE := Lib.hid (show putS L (x1, x2) (k + 1) = ((putS L (x1, x2) k).1 ++ [L[k]], true) by rw [HN.out]; unfold stepP; rw [if_neg (by rw [hd]; simp), hd])
        go_wp2_with (fail)
        go_quiet (fail)
        have hb := below_drewN (Below.refl wr.heap.size wr) nq
        have HO2 := Lib.hid (owns_later HO.out hb)
        have HB2 := Lib.hid (HB.out.trans (hb.mono HB.out.size))
        have c1 : (wr.drewN nq).cell? ⟨r, 1, none⟩ = _ := c1
        have d0 : (wr.drewN nq).cell? ⟨xb, 0, none⟩ = _ := d0
        have d1 : (wr.drewN nq).cell? ⟨xb, 1, none⟩ = _ := d1
        have e0 : (wr.drewN nq).cell? ⟨g, k * 2, none⟩ = _ := e0
        have e1 : (wr.drewN nq).cell? ⟨g, k * 2 + 1, none⟩ = _ := e1
        clear hb HO HB
        generalize wr.drewN nq = W at *
        go_wp2_with (at_builtin; refine wpList_append_one W rfl _ _ 74 rfl w1.heap.size 77 i0 _ 2 16 Try.underlying74 hi hz0 hz1 hz2 rfl (by decide) _ _ _ #[.int .i64 L[k].1, .int .i64 L[k].2] HO2.out HB2.out.size rfl rfl rfl (block_one _ _) (Nat.le_trans HLN.out (by decide)) (by decide) ?_)
        intro v' w3 hown ho _
        have HO3 := Lib.hid (show w3.ownsRow w1.heap.size 77 2 v' (putS L (x1, x2) (k + 1)).1.length (recV encB (putS L (x1, x2) (k + 1)).1) by
          rw [HE.out, List.length_append, recV_append, recV_single]
          exact hown)
        have HB3 := Lib.hid (ho.below HB2.out HB2.out.size (fun j hj => (HO2.out.lt j hj).1))
        clear hown ho HO2 HB2 c1 d0 d1 e0 e1
        go_wp2_with (fail)
        go_roundw
        case rel => exact ⟨k + 1, hlt, by go_num, by rw [HE.out], HO3, HB3.out⟩
        case measure => simp [intOf]; omega
      | false =>
        by_cases hx : x1 < L[k].1
        · have HE := Lib.hid (show putS L (x1, x2) (k + 1) = ((putS L (x1, x2) k).1 ++ [(x1, x2)] ++ [L[k]], true) by rw [HN.out]; unfold stepP; rw [if_pos ⟨hd, hx⟩])
          go_wp2_with (fail)
          go_quiet (fail)
          have hb := below_drewN (Below.refl wr.heap.size wr) nq
          have HO2 := Lib.hid (owns_later HO.out hb)
          have HB2 := Lib.hid (HB.out.trans (hb.mono HB.out.size))
          have c1 : (wr.drewN nq).cell? ⟨r, 1, none⟩ = _ := c1
          have d0 : (wr.drewN nq).cell? ⟨xb, 0, none⟩ = _ := d0
          have d1 : (wr.drewN nq).cell? ⟨xb, 1, none⟩ = _ := d1
          have e0 : (wr.drewN nq).cell? ⟨g, k * 2, none⟩ = _ := e0
          have e1 : (wr.drewN nq).cell? ⟨g, k * 2 + 1, none⟩ = _ := e1
          clear hb HO HB
          generalize wr.drewN nq = W at *
          go_wp2_with (at_builtin; refine wpList_append_one W rfl _ _ 74 rfl w1.heap.size 77 i0 _ 2 16 Try.underlying74 hi hz0 hz1 hz2 rfl (by decide) _ _ _ #[.int .i64 x1, .int .i64 x2] HO2.out HB2.out.size rfl rfl rfl (block_one _ _) (Nat.le_trans HLN.out (by decide)) (by decide) ?_)
          intro v' w3 hown ho _
          have HO3 := Lib.hid (show w3.ownsRow w1.heap.size 77 2 v' ((putS L (x1, x2) k).1 ++ [(x1, x2)]).length (recV encB ((putS L (x1, x2) k).1 ++ [(x1, x2)])) by
            rw [List.length_append, recV_append, recV_single]
            exact hown)
          have HB3 := Lib.hid (ho.below HB2.out HB2.out.size (fun j hj => (HO2.out.lt j hj).1))
          have hso : ∀ q, q < w1.heap.size → w3.heap[q]? = W.heap[q]? := fun q hq => ho.block q (Nat.lt_of_lt_of_le hq HB2.out.size) (fun e => by have := (HO2.out.lt q e).1; omega)
          have HG := HS0.out (by omega)
          obtain ⟨g', eg, _, hgl, _⟩ := HG
          cases eg
          have e0 : w3.cell? ⟨g, k * 2, none⟩ = _ := (World.cell?_of_block (a := ⟨g, k * 2, none⟩) (hso g hgl)).trans e0
          have e1 : w3.cell? ⟨g, k * 2 + 1, none⟩ = _ := (World.cell?_of_block (a := ⟨g, k * 2 + 1, none⟩) (hso g hgl)).trans e1
          have c1 : w3.cell? ⟨r, 1, none⟩ = _ := (World.cell?_of_block (a := ⟨r, 1, none⟩) (hso r HR0.out.lt)).trans c1
          have HL2 := Lib.hid (show ((putS L (x1, x2) k).1 ++ [(x1, x2)]).length ≤ 1000 by rw [List.length_append]; have := HLN.out; simp; omega)
          clear hown ho HO2 HB2 d0 d1 hso
          go_wp2_with (at_builtin; refine wpList_append_one w3 rfl _ _ 74 rfl w1.heap.size 77 i0 _ 2 16 Try.underlying74 hi hz0 hz1 hz2 rfl (by decide) _ _ _ #[.int .i64 L[k].1, .int .i64 L[k].2] HO3.out HB3.out.size rfl rfl rfl (block_one _ _) HL2.out (by decide) ?_)
          intro v2 w4 hown ho _
          have HO4 := Lib.hid (show w4.ownsRow w1.heap.size 77 2 v2 (putS L (x1, x2) (k + 1)).1.length (recV encB (putS L (x1, x2) (k + 1)).1) by
            rw [HE.out, recV_append _ [L[k]], recV_single]
            have e : ((putS L (x1, x2) k).1 ++ [(x1, x2)] ++ [L[k]]).length = (putS L (x1, x2) k).1.length + 1 + 1 := by simp
            rw [e]
            exact hown)
          have HB4 := Lib.hid (ho.below HB3.out HB3.out.size (fun j hj => (HO3.out.lt j hj).1))
          clear hown ho HO3 HB3 c1 e0 e1
          go_wp2_with (fail)
          go_roundw
          case rel => exact ⟨k + 1, hlt, by go_num, by rw [HE.out], HO4, HB4.out⟩
          case measure => simp [intOf]; omega
        · have HE := Lib.hid (show putS L (x1, x2) (k + 1) = ((putS L (x1, x2) k).1 ++ [L[k]], false) by rw [HN.out]; unfold stepP; rw [if_neg (fun h => hx h.2), hd])
          go_wp2_with (fail)
          go_quiet (fail)
          have hb := below_drewN (Below.refl wr.heap.size wr) nq
          have HO2 := Lib.hid (owns_later HO.out hb)
          have HB2 := Lib.hid (HB.out.trans (hb.mono HB.out.size))
          have c1 : (wr.drewN nq).cell? ⟨r, 1, none⟩ = _ := c1
          have d0 : (wr.drewN nq).cell? ⟨xb, 0, none⟩ = _ := d0
          have d1 : (wr.drewN nq).cell? ⟨xb, 1, none⟩ = _ := d1
          have e0 : (wr.drewN nq).cell? ⟨g, k * 2, none⟩ = _ := e0
          have e1 : (wr.drewN nq).cell? ⟨g, k * 2 + 1, none⟩ = _ := e1
          clear hb HO HB
          generalize wr.drewN nq = W at *
          go_wp2_with (at_builtin; refine wpList_append_one W rfl _ _ 74 rfl w1.heap.size 77 i0 _ 2 16 Try.underlying74 hi hz0 hz1 hz2 rfl (by decide) _ _ _ #[.int .i64 L[k].1, .int .i64 L[k].2] HO2.out HB2.out.size rfl rfl rfl (block_one _ _) (Nat.le_trans HLN.out (by decide)) (by decide) ?_)
          intro v' w3 hown ho _
          have HO3 := Lib.hid (show w3.ownsRow w1.heap.size 77 2 v' (putS L (x1, x2) (k + 1)).1.length (recV encB (putS L (x1, x2) (k + 1)).1) by
            rw [HE.out, List.length_append, recV_append, recV_single]
            exact hown)
          have HB3 := Lib.hid (ho.below HB2.out HB2.out.size (fun j hj => (HO2.out.lt j hj).1))
          clear hown ho HO2 HB2 c1 d0 d1 e0 e1
          go_wp2_with (fail)
          go_roundw
          case rel => exact ⟨k + 1, hlt, by go_num, by rw [HE.out], HO3, HB3.out⟩
          case measure => simp [intOf]; omega
    · obtain rfl : k = L.length := by omega
      have HR2 := Lib.hid (HR0.out.later HB.out)
      have HBW := Lib.hid (show Below w.heap.size w wr by rw [hxb]; exact HB0.out.trans (HB.out.mono (by rw [← hxb]; exact HB0.out.size)))
      have hr1 : r + 1 ≤ w1.heap.size := HR0.out.lt
      cases hd : (putS L (x1, x2) L.length).2 with
      | true =>
        have HPL := Lib.hid (show putL L (x1, x2) = (putS L (x1, x2) L.length).1 by unfold putL; rw [if_pos hd])
        have HO2 := HO.out
        rw [← HPL.out] at HO2
        obtain ⟨a', c', rfl, hs⟩ := RecsAt.of_owns HO2
        have f1 : wr.frozen? ⟨r, 1, none⟩ = false := HR2.out.row.frozen 1
        have HN := Lib.hid (show PutAt w r n (putL L (x1, x2)) T u (wr.setCell ⟨r, 1, none⟩ (.slice a' (putL L (x1, x2)).length c')) from
          ⟨a', c', HR2.out.setF (hs.base hr1), (hs.above (Only.setCell (S := Eq r) wr ⟨r, 1, none⟩ rfl _) (fun g hg e => by omega)).base HB0.out.size, (Only.of_below HBW.out).trans (Only.setCell wr ⟨r, 1, none⟩ rfl _)⟩)
        clear HO HO2 hs HR2 HBW HPL
        go_wp2_with (fail)
        go_end0
        exact ⟨rfl, HN.out⟩
      | false =>
        have HPL := Lib.hid (show putL L (x1, x2) = (putS L (x1, x2) L.length).1 ++ [(x1, x2)] by unfold putL; rw [if_neg (by rw [hd]; decide)])
        go_wp2_with (at_builtin; refine wpList_append_one wr rfl _ _ 74 rfl w1.heap.size 77 i0 _ 2 16 Try.underlying74 hi hz0 hz1 hz2 rfl (by decide) _ _ _ #[.int .i64 x1, .int .i64 x2] HO.out HB.out.size rfl rfl rfl (block_one _ _) (Nat.le_trans HLN.out (by decide)) (by decide) ?_)
        intro v' w3 hown ho _
        have hown : w3.ownsRow w1.heap.size 77 2 v' (putL L (x1, x2)).length (recV encB (putL L (x1, x2))) := by
          rw [HPL.out, List.length_append, recV_append, recV_single]
          exact hown
        obtain ⟨a', c', rfl, hs⟩ := RecsAt.of_owns hown
        have HB3 := Lib.hid (ho.below HB.out HB.out.size (fun j hj => (HO.out.lt j hj).1))
        have HR3 := Lib.hid (HR0.out.later HB3.out)
        have c3 := HR3.out.c1
        rw [HV.out] at c3
        have f3 : w3.frozen? ⟨r, 1, none⟩ = false := HR3.out.row.frozen 1
        have HN := Lib.hid (show PutAt w r n (putL L (x1, x2)) T u (w3.setCell ⟨r, 1, none⟩ (.slice a' (putL L (x1, x2)).length c')) from
          ⟨a', c', HR3.out.setF (hs.base hr1), (hs.above (Only.setCell (S := Eq r) w3 ⟨r, 1, none⟩ rfl _) (fun g hg e => by omega)).base HB0.out.size, (Only.of_below (by rw [hxb]; exact HB0.out.trans (HB3.out.mono (by rw [← hxb]; exact HB0.out.size)))).trans (Only.setCell w3 ⟨r, 1, none⟩ rfl _)⟩)
        clear hown ho hs HO HB HR2 HBW HPL HB3 HR3 c1 d0 d1
        go_wp2_with (fail)
        go_end0
        exact ⟨rfl, HN.out⟩
end
end
/-! 1 << k. Of no program. -/
section
open Go.RowKit Go

theorem two_pow_small {k : Nat} (hk : k ≤ 10) : 1 ≤ 2 ^ k ∧ 2 ^ k ≤ 1024 := by
  have h1 := Nat.pow_le_pow_right (n := 2) (by decide) hk
  have h2 := Nat.one_le_two_pow (n := k)
  exact ⟨h2, h1⟩
theorem run_shl1 {P : Program} {t : TypeId} (j : IntKind) (k : Nat) (hk : k ≤ 10) (W : World) : (binOp .shl t (.int .i64 1) (.int j k)).run P W = .ok (.int .i64 ((2 ^ k : Nat) : Int)) W := by
  have h := two_pow_small hk
  simp [binOp]
  rw [show ((2 : Int) ^ k) = ((2 ^ k : Nat) : Int) by simp, IntKind.wrap_i64]
  omega
/-- The operation, in a plain region. -/
theorem wpList_shl1 {P : Program} {ops : Array Oper} {rest : List Oper} {o : Oper} {a : Act} {w : World} {Q : Exit → Act → World → Prop} (hgd : o.guard = none) (t : TypeId) (x y : Operand) (ty : TypeId) (ho : o.op = .binOp .shl t x y ty)
    (j : IntKind) (k p : Nat) (hk : k ≤ 10) (hp : 2 ^ k = p) (hx : a.eval x = .int .i64 1) (hy : a.eval y = .int j k) (h : wpList P ops Q rest (a.put o.dst (.int .i64 p)) w) : wpList P ops Q (o :: rest) a w :=
  wpList_plain hgd fun _ hK => by
    subst hp
    unfold Oper.wp execOp
    simp only [ho, hx, hy, Sem.run_bind, eqGuard_shl, Sem.run_pure, Result.andThen_ok, run_shl1 j k hk w]
    exact hK _ _ h
end
/-! buddy's document: New. -/
section
open Go.RowKit Go

/-- The greatest order below k of a block that begins at a and ends within n; 0 without one. -/
def bestK (a n : Nat) : Nat → Nat
  | 0 => 0
  | k + 1 => if a % 2 ^ k = 0 ∧ a + 2 ^ k ≤ n then k else bestK a n k
/-- The free blocks at first, from a on. -/
def newF (n : Nat) : Nat → Nat → List (Int × Int)
  | 0, _ => []
  | f + 1, a => if a < n then ((a : Int), (bestK a n 11 : Int)) :: newF n f (a + 2 ^ bestK a n 11) else []
def newL (n : Nat) : List (Int × Int) := newF n n 0

theorem best_lt (a n : Nat) : ∀ k, k ≤ 11 → bestK a n k ≤ 10
  | 0, _ => Nat.zero_le _
  | k + 1, h => by
    unfold bestK
    split
    · omega
    · exact best_lt a n k (by omega)
theorem best_fits (a n : Nat) (h : a < n) : ∀ k, a + 2 ^ bestK a n k ≤ n
  | 0 => h
  | k + 1 => by
    unfold bestK
    split
    · rename_i hc; exact hc.2
    · exact best_fits a n h k
def BNew (w : World) (n : Nat) (e : Ending) (w' : World) : Prop := ∃ r v u, e = .returned (.pointer (some ⟨r, 0, none⟩)) ∧ BRef w' r n (newL n) [] v u ∧ w.heap.size ≤ r ∧ Below w.heap.size w w'
set_option maxRecDepth 100000 in
set_option maxHeartbeats 2000000 in
theorem bnew_any (n : Nat) (h1 : 1 ≤ n) (h2 : n ≤ 128) (w : World) : Calls Try.prog 27 #[.int .i64 n] w (BNew w n) := by
  obtain ⟨i0, hi, hz0, hz1, hz2⟩ := info_parts infoBlock
  have HB0 := Lib.hid ((Below.refl _ w).alloc (Nat.le_refl _) (.cells #[.int .i64 n, .slice none 0 0, .slice none 0 0] 94))
  have HR0 := Lib.hid (RowAt.new w #[.int .i64 n, .slice none 0 0, .slice none 0 0] 94 3 (brV n (.slice none 0 0) (.slice none 0 0)) (fun i hi => by
    rcases (show i = 0 ∨ i = 1 ∨ i = 2 by omega) with rfl | rfl | rfl <;> rfl))
  have HS := Lib.hid (show (w.alloc (.cells #[.int .i64 n, .slice none 0 0, .slice none 0 0] 94)).heap.size = w.heap.size + 1 by simp)
  go_enter Try.func27, Try.ntmps27
  go_wp2_with (fail)
  generalize hr : w.heap.size = r at *
  generalize w.alloc (.cells #[.int .i64 n, .slice none 0 0, .slice none 0 0] 94) = w1 at *
  go_loopw [4] (fun i wr => ∃ (a f : Nat) (out : List (Int × Int)) (v : Value), i = .int .i64 a ∧ a + out.length ≤ 2 * a ∧ a ≤ 1000 ∧ n ≤ a + f ∧ out ++ newF n f a = newL n ∧ RowAt wr r 3 (brV n v (.slice none 0 0)) ∧
    Hid (wr.ownsRow (r + 1) 77 2 v out.length (recV encB out)) ∧ Below r w wr) (fun i _ => n - (intOf i).toNat)
  case atStart => exact ⟨0, n, [], .slice none 0 0, rfl, by simp, by omega, by omega, rfl, HR0.out, World.ownsRow_nil _ _ _ _, HB0.out⟩
  case round =>
    obtain ⟨a, f, out, v, rfl, hl, ha, hf, he, hR, HO, hB⟩ := hrel
    have HR := Lib.hid hR
    have HB := Lib.hid hB
    clear hR hB
    by_cases hlt : a < n
    · go_wp2_with (fail)
      go_loop [5, 6] (fun t i => ∃ k : Nat, k ≤ 11 ∧ i = .int .i64 k ∧ t = .int .i64 (bestK a n k)) (fun _ i => 11 - (intOf i).toNat)
      case atStart => exact ⟨0, by decide, rfl, rfl⟩
      case round =>
        obtain ⟨k, hk, rfl, rfl⟩ := hrel
        by_cases hk2 : k < 11
        · obtain ⟨p, hp⟩ : ∃ p, 2 ^ k = p := ⟨_, rfl⟩
          have hp2 := two_pow_small (k := k) (by omega)
          rw [hp] at hp2
          obtain ⟨p1, p2⟩ := hp2
          have HBK := Lib.hid (show bestK a n (k + 1) = if a % p = 0 ∧ a + p ≤ n then k else bestK a n k by rw [← hp]; rfl)
          have HP := Lib.hid hp
          have em : ((a : Int) % (p : Int)) = ((a % p : Nat) : Int) := (Int.natCast_emod a p).symm
          clear hp
          by_cases c1 : a % p = 0
          · have em2 : ((a : Int) % (p : Int) == 0) = true := by rw [em, c1]; rfl
            by_cases c2 : a + p ≤ n
            · have HE := Lib.hid (show bestK a n (k + 1) = k by rw [HBK.out, if_pos ⟨c1, c2⟩])
              clear em
              go_wp2_with (refine wpList_shl1 rfl _ _ _ _ rfl .u64 k p (by omega) HP.out rfl rfl ?_)
              go_round
              case rel => exact ⟨k + 1, hk2, by go_num, by rw [HE.out]⟩
              case measure => simp [intOf]; omega
            · have HE := Lib.hid (show bestK a n (k + 1) = bestK a n k by rw [HBK.out, if_neg (fun h => c2 h.2)])
              have c3 : n < a + p := by omega
              clear em c2
              go_wp2_with (refine wpList_shl1 rfl _ _ _ _ rfl .u64 k p (by omega) HP.out rfl rfl ?_)
              go_round
              case rel => exact ⟨k + 1, hk2, by go_num, by rw [HE.out]⟩
              case measure => simp [intOf]; omega
          · have HE := Lib.hid (show bestK a n (k + 1) = bestK a n k by rw [HBK.out, if_neg (fun h => c1 h.1)])
            have em2 : ((a : Int) % (p : Int) == 0) = false := by
              rw [em]
              simpa using (show ((a % p : Nat) : Int) ≠ 0 by omega)
            clear em c1
            go_wp2_with (refine wpList_shl1 rfl _ _ _ _ rfl .u64 k p (by omega) HP.out rfl rfl ?_)
            go_round
            case rel => exact ⟨k + 1, hk2, by go_num, by rw [HE.out]⟩
            case measure => simp [intOf]; omega
        · obtain rfl : k = 11 := by omega
          have hbl := best_lt a n 11 (by decide)
          have hbf := best_fits a n hlt 11
          obtain ⟨p, hp⟩ : ∃ p, 2 ^ bestK a n 11 = p := ⟨_, rfl⟩
          have hp2 := two_pow_small hbl
          rw [hp] at hp2 hbf
          obtain ⟨p1, p2⟩ := hp2
          have HP := Lib.hid hp
          obtain ⟨f', rfl⟩ : ∃ f', f = f' + 1 := ⟨f - 1, by omega⟩
          have HE := Lib.hid (show out ++ [((a : Int), (bestK a n 11 : Int))] ++ newF n f' (a + p) = newL n by
            rw [← he, ← hp, List.append_assoc]
            show _ = out ++ (if a < n then _ else [])
            rw [if_pos hlt]; rfl)
          have c1 : wr.cell? ⟨r, 1, none⟩ = some v := HR.out.cell 1 (by decide)
          clear hp he
          generalize bestK a n 11 = q at *
          go_wp2_with (at_builtin; refine wpList_append_one wr rfl _ _ 74 rfl (r + 1) 77 i0 _ 2 16 Try.underlying74 hi hz0 hz1 hz2 rfl (by decide) _ _ _ #[.int .i64 a, .int .i64 q] HO.out HR.out.lt rfl rfl rfl (block_one _ _) (by omega) (by decide) ?_)
          intro v' w3 hown ho _
          have hown2 : w3.ownsRow (r + 1) 77 2 v' (out ++ [((a : Int), (q : Int))]).length (recV encB (out ++ [((a : Int), (q : Int))])) := by
            rw [List.length_append, recV_append, recV_single]
            exact hown
          have hr3 := HR.out.only ho (fun e => by have := (HO.out.lt r e).1; omega)
          have HB3 := Lib.hid (ho.below HB.out (Nat.le_of_lt HR.out.lt) (fun j hj => by have := (HO.out.lt j hj).1; omega))
          have c3 : w3.cell? ⟨r, 1, none⟩ = some v := hr3.cell 1 (by decide)
          have f3 : w3.frozen? ⟨r, 1, none⟩ = false := hr3.frozen 1
          have HN1 := Lib.hid (show RowAt (w3.setCell ⟨r, 1, none⟩ v') r 3 (brV n v' (.slice none 0 0)) from (hr3.setCell 1 v').ext (fun i hi => by
            unfold updV brV
            rcases (show i = 0 ∨ i = 1 ∨ i = 2 by omega) with rfl | rfl | rfl <;> simp))
          have HN2 := Lib.hid (owns_only hown2 (Only.setCell (S := Eq r) w3 ⟨r, 1, none⟩ rfl v') (fun k hk e => by have := (hown2.lt k hk).1; omega))
          have HN3 := Lib.hid (HB3.out.setCell (p := ⟨r, 1, none⟩) (Nat.le_refl _) v')
          obtain ⟨a2, cap2, hv2, _⟩ := owns_slice hown2
          have hll : (out ++ [((a : Int), (q : Int))]).length = out.length + 1 := by simp
          rw [hll] at hv2
          subst hv2
          clear hown hown2 ho hr3 HB3 HO HR HB c1
          go_wp2_with (refine wpList_shl1 rfl _ _ _ _ rfl .u64 q p hbl HP.out rfl rfl ?_)
          go_roundw
          case rel => exact ⟨a + p, f', out ++ [((a : Int), (q : Int))], _, by go_num, by rw [hll]; omega, by omega, by omega, HE.out, HN1.out, HN2, HN3.out⟩
          case measure => simp [intOf]; omega
    · have hend : newF n f a = [] := by
        cases f with
        | zero => rfl
        | succ f =>
          show (if a < n then _ else []) = []
          rw [if_neg hlt]
      rw [hend, List.append_nil] at he
      subst he
      obtain ⟨a2, cap2, rfl, hs⟩ := RecsAt.of_owns HO.out
      have HN := Lib.hid (show BNew w n (.returned (.pointer (some ⟨r, 0, none⟩))) wr from
        ⟨r, _, _, rfl, ⟨HR.out, ⟨a2, cap2, rfl, hs⟩, ⟨none, 0, rfl, RecsAt.nil _ _ _⟩⟩, by omega, by rw [hr]; exact HB.out⟩)
      clear HO hs HR HB
      go_wp2_with (fail)
      go_ret
      exact HN.out
end
/-! A region that draws its order, walked by a plan: what only reads is taken first; where several may come up, each has a plan of its own; the last operation may turn what was read. Of no program. -/
section
open Go.RowKit Go

/-- A plan: the end; i is taken; i comes up, and then .., or one of the others. -/
inductive Plan where
  | fin
  | take (i : Nat) (p : Plan)
  | step (i : Nat) (p : Plan) (alt : Plan)
/-- Those that a chain of steps begins with. -/
def Plan.heads : Plan → List Nat
  | .step i _ alt => i :: alt.heads
  | _ => []
/-- The walk by a plan. -/
def LexP (P : Program) (ops : Array Oper) (Q : Exit → Act → World → Prop) (S : World → Prop) (K : Act → World → Prop) : Plan → Act → World → Prop
  | .fin, a, w => K a w
  | .take i p, a, w => ∃ o v, ops[i]? = some o ∧ YieldsIf P ops S o v a ∧ LexP P ops Q S K p (a.put o.dst v) w
  | .step i p .fin, a, w => wpOp P ops Q i (fun a' w' => S w' ∧ LexP P ops Q S K p a' w') a w
  | .step i p alt, a, w => wpOp P ops Q i (fun a' w' => S w' ∧ LexP P ops Q S K p a' w') a w ∧ LexP P ops Q S K alt a w
/-- The plan is one that serves, with f behind it; n are left. -/
def schedP (md : Region.Mode) (ops : Array Oper) (f : Nat) : Bool → Plan → Nat → Array Bool → Bool
  | _, .fin, n, listed => n == 1 && ((Region.ready md ops listed == [f]) && (Region.ready md ops (listed.setIfInBounds f true)).isEmpty)
  | _, .take i p, n, listed => Nat.blt 0 n && (Region.free md ops listed i && ((Region.ready md ops listed).contains i && ((reachB md ops i ops.size f || (i != f && (match ops[i]? with | some o => pureB o.op | none => false))) && schedP md ops f true p (n - 1) (listed.setIfInBounds i true))))
  | first, .step i p alt, n, listed => (!first || Region.ready md ops listed == Plan.heads (.step i p alt)) && (Nat.blt 0 n && (i != f && (schedP md ops f true p (n - 1) (listed.setIfInBounds i true) && (match alt with
    | .fin => true
    | .take _ _ => false
    | .step j q r => schedP md ops f false (.step j q r) n listed))))

section
variable {P : Program} {ops : Array Oper} {Q : Exit → Act → World → Prop} {S : World → Prop} {K : Act → World → Prop} {md : Region.Mode} {f : Nat}
/-- One of a chain. -/
theorem lexP_alt {listed : Array Bool} {a : Act} {w : World} {n : Nat} : ∀ (p : Plan) (first : Bool), schedP md ops f first p n listed = true → (∃ i q r, p = .step i q r) → LexP P ops Q S K p a w →
    ∀ i ∈ p.heads, ∃ q, SizeOf.sizeOf q < SizeOf.sizeOf p ∧ 0 < n ∧ schedP md ops f true q (n - 1) (listed.setIfInBounds i true) = true ∧ wpOp P ops Q i (fun a' w' => S w' ∧ LexP P ops Q S K q a' w') a w
  | .fin, _, _, ⟨_, _, _, e⟩, _ => by cases e
  | .take _ _, _, _, ⟨_, _, _, e⟩, _ => by cases e
  | .step i p .fin, first, hb, _, h => fun j hj => by
    simp only [schedP, Bool.and_eq_true, bne_iff_ne, Nat.blt_eq] at hb
    obtain rfl : j = i := by simpa [Plan.heads] using hj
    exact ⟨p, by simp; omega, hb.2.1, hb.2.2.2.1, h⟩
  | .step i p (.take _ _), first, hb, _, h => by
    simp [schedP] at hb
  | .step i p (.step j q r), first, hb, _, h => fun k hk => by
    simp only [schedP, Bool.and_eq_true, bne_iff_ne, Nat.blt_eq] at hb
    have hk2 : k = i ∨ k ∈ (Plan.step j q r).heads := by simpa [Plan.heads] using hk
    rcases hk2 with rfl | hk2
    · exact ⟨p, by simp; omega, hb.2.1, hb.2.2.2.1, h.1⟩
    · have h3 : schedP md ops f false (.step j q r) n listed = true := hb.2.2.2.2
      obtain ⟨q', h1, h2⟩ := lexP_alt (.step j q r) false h3 ⟨_, _, _, rfl⟩ h.2 k hk2
      exact ⟨q', Nat.lt_trans h1 (by simp; omega), h2⟩
theorem schedP_heads {listed : Array Bool} {n i : Nat} {p r : Plan} (h : schedP md ops f true (.step i p r) n listed = true) : Region.ready md ops listed = (Plan.step i p r).heads := by
  unfold schedP at h
  simp only [Bool.and_eq_true, Bool.not_true, Bool.false_or, beq_iff_eq] at h
  exact h.1
theorem wpAnyF_of_plan (hs : Region.noSelect ops = true) (hQ : ∀ c a d v w, Q (.panic c) (Act.put a d v) w → Q (.panic c) a w) (p : Plan) (n : Nat) (listed : Array Bool) (a : Act) (w : World)
    (hb : schedP md ops f true p n listed = true) (hc : Closed md ops listed) (hS : S w) (h : LexP P ops Q S (wpOp P ops Q f (Q .normal)) p a w) : wpAnyF P md ops Q S f n listed a w := by
  match p, hb, h with
  | .fin, hb, h =>
    simp only [schedP, Bool.and_eq_true, beq_iff_eq, List.isEmpty_iff] at hb
    obtain ⟨rfl, hb1, hb2⟩ := hb
    refine ⟨fun h0 => (by rw [h0] at hb1; cases hb1), fun i hi => ?_⟩
    rw [hb1] at hi
    obtain rfl : i = f := by simpa using hi
    exact wpOp_mono (fun a' w' hh => ⟨.inl rfl, hb2, hh⟩) h
  | .take i q, hb, ⟨o, v, hi, hy, h⟩ =>
    simp only [schedP, Bool.and_eq_true, Nat.blt_eq] at hb
    obtain ⟨m, rfl⟩ : ∃ m, n = m + 1 := ⟨n - 1, by omega⟩
    have hr : i ∈ Region.ready md ops listed := by simpa using hb.2.2.1
    have hb3 := hb.2.2.2.2
    rw [Nat.add_sub_cancel] at hb3
    exact wpAnyF_take hi hs (fun c a w => hQ c a o.dst v w) hb.2.2.2.1 hc hb.2.1 hr hy hS (wpAnyF_of_plan hs hQ q m _ _ w hb3 (hc.add hr) hS h)
  | .step i q r, hb, h =>
    have hready := schedP_heads hb
    have hall := lexP_alt (.step i q r) true hb ⟨_, _, _, rfl⟩ h
    have hn : 0 < n := by
      obtain ⟨_, _, h0, _⟩ := hall i (by cases r <;> simp [Plan.heads])
      exact h0
    obtain ⟨m, rfl⟩ : ∃ m, n = m + 1 := ⟨n - 1, by omega⟩
    refine ⟨fun h0 => (by rw [hready] at h0; cases r <;> simp [Plan.heads] at h0), fun j hj => ?_⟩
    have hj2 := hj
    rw [hready] at hj2
    obtain ⟨q', hlt, _, hb', hw⟩ := hall j hj2
    rw [Nat.add_sub_cancel] at hb'
    exact wpOp_mono (fun a' w' hh => ⟨.inr (.inr hh.1), wpAnyF_of_plan hs hQ q' m _ a' w' hb' (hc.add hj) hh.1 hh.2⟩) hw
termination_by SizeOf.sizeOf p
decreasing_by
  all_goals simp_wf
  all_goals (try simp at hlt)
  all_goals omega

/-- A region walked by a plan; S need not hold behind its last operation f. -/
theorem wp_region_plan {id : Nat} {l : List Oper} {Q : Exit → Act → World → Prop} {a : Act} {w : World} (S : World → Prop) (p : Plan) (f : Nat) (hm : P.follows .mixedOrders = true)
    (hs : Region.noSelect l.toArray = true) (hb : schedP .any l.toArray f true p l.toArray.size (Array.replicate l.toArray.size false) = true)
    (hS : S w.drew) (h : ∀ W, W = w.drew → S W → LexP P l.toArray (NoPanic Q) S (wpOp P l.toArray (NoPanic Q) f (NoPanic Q .normal)) p a W) : (Code.region id l.toArray true).wp P Q a w :=
  wp_region_noPanic (wp_region_any hm (wpAny_of_F _ _ _ _ (wpAnyF_of_plan hs (fun _ _ _ _ _ h => h) p _ _ a _ hb (Closed.start _ _ _) hS (h _ rfl hS))))

variable {i : Nat} {p r : Plan} {a : Act} {w : World}
theorem lexP_yield {o : Oper} {v : Value} (hi : ops[i]? = some o) (hw : Region.wanted o (yielded ops a.tmps) = true) (hv : ∀ W, S W → (execOp a.eval o).run P W = .ok (.value v) W) (h : LexP P ops Q S K p (a.put o.dst v) w) : LexP P ops Q S K (.take i p) a w :=
  ⟨o, v, hi, .inl ⟨hw, hv⟩, h⟩
theorem lexP_yieldE {o : Oper} (hi : ops[i]? = some o) (hw : Region.wanted o (yielded ops a.tmps) = true) (h : ∃ v, (∀ W, S W → (execOp a.eval o).run P W = .ok (.value v) W) ∧ LexP P ops Q S K p (a.put o.dst v) w) : LexP P ops Q S K (.take i p) a w :=
  let ⟨_, hv, h⟩ := h
  lexP_yield hi hw hv h
theorem lexP_load {o : Oper} {v : Value} (hi : ops[i]? = some o) (hw : Region.wanted o (yielded ops a.tmps) = true) (ty : TypeId) (x : Operand) (ho : o.op = .load ty x) {q : Addr} (hx : a.eval x = .pointer (some q))
    (hv : ∀ W, S W → (loadVar ty q).run P W = .ok v W) (h : LexP P ops Q S K p (a.put o.dst v) w) : LexP P ops Q S K (.take i p) a w :=
  lexP_yield hi hw (fun W hW => by unfold execOp; simp only [ho, hx, Instr.loadAt, Instr.sureAddr, Sem.run_bind, Sem.run_pure, Result.andThen_ok, hv W hW]) h
/-- The only one that may come up, or the last of a chain. -/
theorem lexP_step {o : Oper} (hi : ops[i]? = some o) (hw : Region.wanted o (yielded ops a.tmps) = true) (h : o.wp P a w (fun a' w' => S w' ∧ LexP P ops Q S K p a' w') Q) : LexP P ops Q S K (.step i p .fin) a w := by
  show wpOp P ops Q i _ a w
  unfold wpOp
  simp only [hi, hw, if_true]
  exact .inl h
/-- One of several. -/
theorem lexP_or {o : Oper} {j : Nat} {q r : Plan} (hi : ops[i]? = some o) (hw : Region.wanted o (yielded ops a.tmps) = true) (h : o.wp P a w (fun a' w' => S w' ∧ LexP P ops Q S K p a' w') Q) (hr : LexP P ops Q S K (.step j q r) a w) : LexP P ops Q S K (.step i p (.step j q r)) a w := by
  refine ⟨?_, hr⟩
  unfold wpOp
  simp only [hi, hw, if_true]
  exact .inl h
/-- What is left to do behind a step is what is left to do: for the arms of LexH. -/
theorem lexP_last {Q : Exit → Act → World → Prop} {o : Oper} (hi : ops[f]? = some o) (hw : Region.wanted o (yielded ops a.tmps) = true) (h : o.wp P a w (fun a' w' => Q .normal a' w') (NoPanic Q)) :
    LexP P ops (NoPanic Q) S (wpOp P ops (NoPanic Q) f (NoPanic Q .normal)) .fin a w := by
  show wpOp P ops (NoPanic Q) f _ a w
  unfold wpOp
  simp only [hi, hw, if_true]
  exact .inl (Oper.wp_mono (fun _ _ h => NoPanic.normal h) h)
end
end
end Go.Proofs.Ytdpnmjlapgldgaa
