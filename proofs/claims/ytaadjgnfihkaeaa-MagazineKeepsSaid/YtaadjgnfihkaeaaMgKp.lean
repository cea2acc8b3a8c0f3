/-
  magazine's law: a pile beside rows of the law's own, each apart from the others.
-/
import Derived.Test.YtaadjgnfihkaeaaMgOps
namespace Go.Proofs.Ytaadjgnfihkaeaa
open Go.RowKit Go

section
variable {P : Program}
/-- Where the new row lies. -/
theorem append_whrN {w : World} (base : Nat) (t ty e : TypeId) (i : TypeInfo) (z : Value) (size bytes : Nat) (ht : P.underlying t = some (.slice e)) (hi : P.info? e = some i) (hz : i.zero = some z)
    (hsize : i.size = size) (hby : i.bytes = bytes) (v : Value) (n : Nat) (xs : List Value) (hown : w.ownsRow base e size v n xs)
    (a : Addr) (m c : Nat) (hm : 0 < m) (news : List Value) (hl : news.length = m * size) (hnews : ∀ j u, news[j]? = some u → w.cell? (a.add j) = some u) (h1 : ∀ u ∈ news, u.oneCell' = true)
    (h63 : n + m ≤ maxLen) (hb : (n + m) * bytes ≤ 140737488355328) {v' : Value} {w' : World} (hr : (Builtin.append_ #[t, t] ty #[v, .slice (some a) m c]).run P w = .ok v' w') :
    v'.ownBlock = v.ownBlock ∨ ∀ k, v'.ownBlock = some k → w.heap.size ≤ k := by
  subst hsize
  subst hby
  have hmb : m * i.bytes ≤ 281474976710656 := Nat.le_trans (Nat.mul_le_mul_right _ (Nat.le_add_left m n)) (by omega)
  have hml : ((n + m : Nat) : Int) ≤ 9223372036854775807 := by unfold maxLen at h63; omega
  rcases hown.2 with ⟨rfl, rfl⟩ | ⟨g, cap, cur, rfl, hbg, hg, hnc, hcm, hcs, htake⟩
  · have h := run_append_nil (P := P) w t ty e i z ht hi hz a m c news hl hnews hm (by omega) hmb
    rw [h] at hr
    injection hr with hr _
    subst hr
    right
    intro k hk
    simp only [Value.ownBlock, Option.some.injEq] at hk
    omega
  · by_cases hroom : n + m ≤ cap
    · have hfit : n * i.size + news.length ≤ cur.size := by rw [hl, hcs, ← Nat.add_mul]; exact Nat.mul_le_mul_right _ hroom
      have h := run_append_room (P := P) w t ty e i ht hi g n cap cur hg a m c news hl hnews h1 hroom hfit
      rw [h] at hr
      injection hr with hr _
      subst hr
      exact .inl rfl
    · have h := run_append_grow (P := P) w t ty e i z ht hi hz ⟨g, 0, none⟩ n cap xs hown.1 (hown.cells (g := g) rfl) a m c news hl hnews (by omega) hml (growslice_fits (by omega) hb)
      rw [h] at hr
      injection hr with hr _
      subst hr
      right
      intro k hk
      simp only [Value.ownBlock, Option.some.injEq] at hk
      omega
theorem wpList_append_wat (w : World) {ops : Array Oper} {rest : List Oper} {o : Oper} {a : Act} {Q : Exit → Act → World → Prop} (hgd : o.guard = none) (s x : Operand) (t : TypeId)
    (ho : o.op = .call { callee := .builtin .append, args := #[s, x], argTypes := #[t, t] })
    (base : Nat) (e : TypeId) (i : TypeInfo) (z : Value) (size bytes : Nat) (ht : P.underlying t = some (.slice e)) (hi : P.info? e = some i) (hz : i.zero = some z)
    (hsize : i.size = size) (hby : i.bytes = bytes) (hzs : z.cells.size = size) (hsz : 0 < size)
    (v : Value) (n : Nat) (xs : List Value) (hown : w.ownsRow base e size v n xs) (hbase : base ≤ w.heap.size) (hs : a.eval s = v)
    (ad : Addr) (m c : Nat) (hm : 0 < m) (news : List Value) (hx : a.eval x = .slice (some ad) m c) (hl : news.length = m * size) (hsrc : ∀ j u, news[j]? = some u → w.cell? (ad.add j) = some u) (h1 : ∀ u ∈ news, u.oneCell' = true)
    (h63 : n + m ≤ maxLen) (hb : (n + m) * bytes ≤ 140737488355328)
    (h : ∀ v' w', w'.ownsRow base e size v' (n + m) (xs ++ news) → Only (fun k => v.ownBlock = some k) w w' → (v'.ownBlock = v.ownBlock ∨ ∀ k, v'.ownBlock = some k → w.heap.size ≤ k) → wpList P ops Q rest (a.put o.dst v') w') : wpList P ops Q (o :: rest) a w := by
  obtain ⟨v', w', hr, h2, h3, h4⟩ := run_append_own_src (P := P) w base t o.type e i z size bytes ht hi hz hsize hby hzs hsz v n xs hown (some ad) m c news hl (fun _ => ⟨ad, rfl, hsrc⟩) h1 h63 hb hbase
  have hwh := append_whrN (P := P) base t o.type e i z size bytes ht hi hz hsize hby v n xs hown ad m c hm news hl hsrc h1 h63 hb hr
  refine wpList_plain hgd fun _ hK => ?_
  unfold Oper.wp execOp
  simp only [ho, resolve, invoke, builtin, Sem.run_bind, Sem.run_pure, Result.andThen_ok, List.map_toArray, List.map_cons, List.map_nil, hs, hx, hr]
  exact hK _ _ (h v' w' h2 (Only.of_grown h3) hwh)
end
/-- A row. -/
structure Rw where
  v : Value
  T : TypeId
  s : Nat
  n : Nat
  xs : List Value
def RwAt (w : World) (r : Rw) : Prop := w.ownsRow 0 r.T r.s r.v r.n r.xs
def Rw.off (a b : Rw) : Prop := ∀ k, a.v.ownBlock = some k → b.v.ownBlock ≠ some k
/-- A pile beside rows, the pile's blocks none of the rows', the rows apart. -/
def KP (w0 : World) (p N : Nat) (S : Obs) (l : List Rw) (w : World) : Prop :=
  PSB w0 p N S (fun k => ∃ r ∈ l, r.v.ownBlock = some k) w ∧ (∀ r ∈ l, RwAt w r) ∧ l.Pairwise Rw.off ∧ ∀ r ∈ l, ∀ k, r.v.ownBlock = some k → w0.heap.size ≤ k
theorem Rw.off_symm {a b : Rw} (h : a.off b) : b.off a := fun k h1 h2 => h k h2 h1
section
variable {w0 w w' : World} {p N : Nat} {S S' : Obs} {l l2 : List Rw} {r r' : Rw}
theorem KP.bel (h : KP w0 p N S l w) : Below w0.heap.size w0 w := h.1.ps.bel
theorem owns_lenS {base n size : Nat} {T : TypeId} {v : Value} {xs : List Value} (h : w.ownsRow base T size v n xs) : ∃ a c, v = .slice a n c := by
  obtain ⟨a, c, e, _⟩ := owns_slice h
  exact ⟨a, c, e⟩
theorem KP.perm (h : KP w0 p N S l w) (hp : l.Perm l2) : KP w0 p N S l2 w :=
  ⟨h.1.fewer (fun _ ⟨r, hr, e⟩ => ⟨r, hp.mem_iff.2 hr, e⟩), fun r hr => h.2.1 r (hp.mem_iff.2 hr), (hp.pairwise_iff (fun {_ _} h => Rw.off_symm h)).1 h.2.2.1, fun r hr => h.2.2.2 r (hp.mem_iff.2 hr)⟩
theorem KP.swap {a b : Rw} (h : KP w0 p N S (a :: b :: l) w) : KP w0 p N S (b :: a :: l) w := h.perm (List.Perm.swap b a l)
theorem KP.drop (h : KP w0 p N S (r :: l) w) : KP w0 p N S l w :=
  ⟨h.1.fewer (fun _ ⟨r, hr, e⟩ => ⟨r, List.mem_cons_of_mem _ hr, e⟩), fun r hr => h.2.1 r (List.mem_cons_of_mem _ hr), (List.pairwise_cons.1 h.2.2.1).2, fun r hr => h.2.2.2 r (List.mem_cons_of_mem _ hr)⟩
theorem KP.later (h : KP w0 p N S l w) (hb : Below w.heap.size w w') : KP w0 p N S l w' := ⟨h.1.later hb, fun r hr => owns_later (h.2.1 r hr) hb, h.2.2⟩
theorem KP.turn (h : KP w0 p N S l w) (h1 : PSB w0 p N S' (fun k => ∃ r ∈ l, r.v.ownBlock = some k) w') (ho : Only (fun k => ¬ ∃ r ∈ l, r.v.ownBlock = some k) w w') : KP w0 p N S' l w' :=
  ⟨h1, fun r hr => owns_only (h.2.1 r hr) ho (fun _ hk hn => hn ⟨r, hr, hk⟩), h.2.2⟩
/-- The first row turns, and may lie elsewhere. -/
theorem KP.grow (h : KP w0 p N S (r :: l) w) (ho : Only (fun k => r.v.ownBlock = some k) w w') (hr : RwAt w' r') (hwh : r'.v.ownBlock = r.v.ownBlock ∨ ∀ k, r'.v.ownBlock = some k → w.heap.size ≤ k) : KP w0 p N S (r' :: l) w' := by
  obtain ⟨⟨M, L, O, e, hM, hB, hlo, hs, hO, hq⟩, hrow, hpw, hle⟩ := h
  obtain ⟨hp1, hp2⟩ := List.pairwise_cons.1 hpw
  have hr0 := hrow r (List.mem_cons_self)
  refine ⟨⟨M, L, O, e, hM.only ho (fun k hk h => (hq k ⟨r, List.mem_cons_self, h⟩).1 hk), ho.below hB hB.size (fun k hk => hle r List.mem_cons_self k hk), hlo, hs, hO, ?_⟩, ?_, ?_, ?_⟩
  · rintro k ⟨r2, hr2, hk⟩
    rcases List.mem_cons.1 hr2 with rfl | hr2
    · rcases hwh with h | h
      · rw [h] at hk
        exact ⟨(hq k ⟨r, List.mem_cons_self, hk⟩).1, Nat.lt_of_lt_of_le (hq k ⟨r, List.mem_cons_self, hk⟩).2 ho.size⟩
      · exact ⟨fun hm => by have := hM.lt hm; have := h k hk; omega, (hr.lt k hk).2⟩
    · have h2 := hq k ⟨r2, List.mem_cons_of_mem _ hr2, hk⟩
      exact ⟨h2.1, Nat.lt_of_lt_of_le h2.2 ho.size⟩
  · intro r2 hr2
    rcases List.mem_cons.1 hr2 with rfl | hr2
    · exact hr
    · exact owns_only (hrow r2 (List.mem_cons_of_mem _ hr2)) ho (fun k hk h => hp1 r2 hr2 k h hk)
  · refine List.pairwise_cons.2 ⟨fun r2 hr2 k hk h2 => ?_, hp2⟩
    rcases hwh with h | h
    · rw [h] at hk
      exact hp1 r2 hr2 k hk h2
    · have h3 := (hq k ⟨r2, List.mem_cons_of_mem _ hr2, h2⟩).2
      have := h k hk
      omega
  · intro r2 hr2 k hk
    rcases List.mem_cons.1 hr2 with rfl | hr2
    · rcases hwh with h | h
      · rw [h] at hk
        exact hle r List.mem_cons_self k hk
      · exact Nat.le_trans hB.size (h k hk)
    · exact hle r2 (List.mem_cons_of_mem _ hr2) k hk
/-- A row more, made just now. -/
theorem KP.fresh (h : KP w0 p N S l w) (hb : Below w.heap.size w w') (hr : RwAt w' r) (hf : ∀ k, r.v.ownBlock = some k → w.heap.size ≤ k) : KP w0 p N S (r :: l) w' := by
  obtain ⟨⟨M, L, O, e, hM, hB, hlo, hs, hO, hq⟩, hrow, hpw, hle⟩ := h
  refine ⟨⟨M, L, O, e, hM.later hb, hB.trans (hb.mono hB.size), hlo, hs, hO, ?_⟩, ?_, ?_, ?_⟩
  · rintro k ⟨r2, hr2, hk⟩
    rcases List.mem_cons.1 hr2 with rfl | hr2
    · exact ⟨fun hm => by have := hM.lt hm; have := hf k hk; omega, (hr.lt k hk).2⟩
    · have h2 := hq k ⟨r2, hr2, hk⟩
      exact ⟨h2.1, Nat.lt_of_lt_of_le h2.2 hb.size⟩
  · intro r2 hr2
    rcases List.mem_cons.1 hr2 with rfl | hr2
    · exact hr
    · exact owns_later (hrow r2 hr2) hb
  · refine List.pairwise_cons.2 ⟨fun r2 hr2 k hk h2 => ?_, hpw⟩
    have := (hq k ⟨r2, hr2, h2⟩).2
    have := hf k hk
    omega
  · intro r2 hr2 k hk
    rcases List.mem_cons.1 hr2 with rfl | hr2
    · exact Nat.le_trans hB.size (hf k hk)
    · exact hle r2 hr2 k hk
end
def encI (x : Int) : List Value := [.int .i64 x]
theorem encI_len : ∀ x, (encI x).length = 1 := fun _ => rfl
theorem encI_one : ∀ x, ∀ u ∈ encI x, u.oneCell' = true := fun x u h => by
  rw [encI, List.mem_singleton] at h
  subst h
  rfl
/-- A row of ints, of objects. -/
def rI (v : Value) (I : List Int) : Rw := ⟨v, 3, 1, I.length, recV encI I⟩
def rO (v : Value) (A : Obs) : Rw := ⟨v, TO, 2, A.length, recV encO A⟩
theorem intInfoM : (Try.prog.info? 3).map (fun i => (i.zero, i.size, i.bytes)) = some (some (.int .i64 0), 1, 8) := by kernel_rfl
section
variable {w0 w w' : World} {p N : Nat} {S S' : Obs} {l l2 : List Rw} {r r' : Rw} {v : Value}
theorem KP.nilI (h : KP w0 p N S l w) : KP w0 p N S (rI (.slice none 0 0) [] :: l) w := h.fresh (Below.refl _ _) (World.ownsRow_nil _ _ _ _) (fun k hk => by cases hk)
theorem KP.nilO (h : KP w0 p N S l w) : KP w0 p N S (rO (.slice none 0 0) [] :: l) w := h.fresh (Below.refl _ _) (World.ownsRow_nil _ _ _ _) (fun k hk => by cases hk)
theorem KP.lenI {I : List Int} (h : KP w0 p N S (rI v I :: l) w) : ∃ a c, v = .slice a I.length c := owns_lenS (h.2.1 _ List.mem_cons_self)
theorem KP.lenO {A : Obs} (h : KP w0 p N S (rO v A :: l) w) : ∃ a c, v = .slice a A.length c := owns_lenS (h.2.1 _ List.mem_cons_self)
/-- An int of a row. -/
theorem KP.atI {I : List Int} (h : KP w0 p N S (rI v I :: l) w) {k : Nat} (hk : k < I.length) : ∃ g c, v = .slice (some ⟨g, 0, none⟩) I.length c ∧ w.cell? ⟨g, k, none⟩ = some (.int .i64 I[k]) := by
  obtain ⟨a, c, e, hr⟩ := RecsAt.of_owns (enc := encI) (s := 1) (L := I) (h.2.1 _ List.mem_cons_self)
  obtain ⟨g, rfl, _, _, hx⟩ := hr.get encI_len k hk
  have h0 := hx 0 _ rfl
  rw [Nat.mul_one, Nat.add_zero] at h0
  exact ⟨g, c, e, h0⟩
theorem KP.atO {A : Obs} (h : KP w0 p N S (rO v A :: l) w) {k : Nat} (hk : k < A.length) : ∃ g c, v = .slice (some ⟨g, 0, none⟩) A.length c ∧ w.cell? ⟨g, k * 2, none⟩ = some (.int .i64 A[k].1) ∧ w.cell? ⟨g, k * 2 + 1, none⟩ = some (.int .i64 A[k].2) := by
  obtain ⟨a, c, e, hr⟩ := RecsAt.of_owns (enc := encO) (s := 2) (L := A) (h.2.1 _ List.mem_cons_self)
  obtain ⟨g, rfl, _, _, hx⟩ := hr.get encO_len k hk
  exact ⟨g, c, e, hx 0 _ rfl, hx 1 _ rfl⟩
/-- The same in every later world. -/
theorem KP.atI' {I : List Int} (h : KP w0 p N S (rI v I :: l) w) {k : Nat} (hk : k < I.length) : ∃ g c, v = .slice (some ⟨g, 0, none⟩) I.length c ∧ ∀ W, Below w.heap.size w W → W.cell? ⟨g, k, none⟩ = some (.int .i64 I[k]) := by
  obtain ⟨g, c, e, hc⟩ := h.atI hk
  exact ⟨g, c, e, fun W hW => by rw [hW.cell (World.block_lt_of_cell? _ _ hc)]; exact hc⟩
theorem KP.srcO {A : Obs} (h : KP w0 p N S (rO v A :: l) w) : SrcO w v A := SrcO.of_owns (h.2.1 _ List.mem_cons_self)
section
variable {ops : Array Oper} {rest : List Oper} {o : Oper} {a : Act} {Q : Exit → Act → World → Prop}
/-- append(row, x). -/
theorem wpList_kpI (hgd : o.guard = none) (s x : Operand) (ho : o.op = .call { callee := .builtin .append, args := #[s, x], argTypes := #[46, 46] })
    {I : List Int} (h : KP w0 p N S (rI v I :: l) w) (hn : I.length ≤ 100000) (y : Int) (hs : a.eval s = v) (hx : a.eval x = .slice (some ⟨w.heap.size, 0, none⟩) 1 1)
    (hK : ∀ v' w', KP w0 p N S (rI v' (I ++ [y]) :: l) w' → wpList Try.prog ops Q rest (a.put o.dst v') w') : wpList Try.prog ops Q (o :: rest) a (w.alloc (.cells #[.int .i64 y] 3)) := by
  obtain ⟨i0, hi, hz0, hz1, hz2⟩ := info_parts intInfoM
  have hba : Below w.heap.size w (w.alloc (.cells #[.int .i64 y] 3)) := (Below.refl _ _).alloc (Nat.le_refl _) _
  have h2 := h.later hba
  refine wpList_append_wat _ hgd s x 46 ho 0 3 i0 _ 1 8 Try.underlying46 hi hz0 hz1 hz2 rfl (by decide) v I.length (recV encI I) (h2.2.1 _ List.mem_cons_self) (Nat.zero_le _) hs ⟨w.heap.size, 0, none⟩ 1 1 (by decide) (encI y) hx rfl (fun j u hj => ?_) (encI_one _) (by unfold maxLen; omega) (by omega) ?_
  · rw [Addr.add_lit, Nat.zero_add, cell_of_row _ _ _ _ _ _ (heap_alloc_new w _)]
    simpa [encI] using hj
  · intro v' w' hown ho hwh
    refine hK v' w' (h2.grow ho ?_ hwh)
    show w'.ownsRow 0 3 1 v' (I ++ [y]).length (recV encI (I ++ [y]))
    rw [List.length_append, recV_append, recV_single]
    exact hown
theorem wpList_kpO (hgd : o.guard = none) (s x : Operand) (ho : o.op = .call { callee := .builtin .append, args := #[s, x], argTypes := #[29, 29] })
    {A : Obs} (h : KP w0 p N S (rO v A :: l) w) (hn : A.length ≤ 100000) (y1 y2 : Int) (hs : a.eval s = v) (hx : a.eval x = .slice (some ⟨w.heap.size, 0, none⟩) 1 1)
    (hK : ∀ v' w', KP w0 p N S (rO v' (A ++ [(y1, y2)]) :: l) w' → wpList Try.prog ops Q rest (a.put o.dst v') w') : wpList Try.prog ops Q (o :: rest) a (w.alloc (.cells #[.int .i64 y1, .int .i64 y2] TO)) := by
  obtain ⟨i0, hi, hz0, hz1, hz2⟩ := info_parts infoObj
  have hba : Below w.heap.size w (w.alloc (.cells #[.int .i64 y1, .int .i64 y2] TO)) := (Below.refl _ _).alloc (Nat.le_refl _) _
  have h2 := h.later hba
  refine wpList_append_wat _ hgd s x 29 ho 0 33 i0 _ 2 16 Try.underlying29 hi hz0 hz1 hz2 rfl (by decide) v A.length (recV encO A) (h2.2.1 _ List.mem_cons_self) (Nat.zero_le _) hs ⟨w.heap.size, 0, none⟩ 1 1 (by decide) (encO (y1, y2)) hx rfl (fun j u hj => ?_) (encO_one _) (by unfold maxLen; omega) (by omega) ?_
  · rw [Addr.add_lit, Nat.zero_add, cell_of_row _ _ _ _ _ _ (heap_alloc_new w _)]
    simpa [encO] using hj
  · intro v' w' hown ho hwh
    refine hK v' w' (h2.grow ho ?_ hwh)
    show w'.ownsRow 0 TO 2 v' (A ++ [(y1, y2)]).length (recV encO (A ++ [(y1, y2)]))
    rw [List.length_append, recV_append, recV_single]
    exact hown
/-- append(row, another row...). -/
theorem wpList_kpII (hgd : o.guard = none) (s x : Operand) (ho : o.op = .call { callee := .builtin .append, args := #[s, x], argTypes := #[46, 46] })
    {I J : List Int} {v2 : Value} (h : KP w0 p N S (rI v I :: rI v2 J :: l) w) (hn : I.length + J.length ≤ 100000) (hJ : 0 < J.length) (hs : a.eval s = v) (hx : a.eval x = v2)
    (hK : ∀ v' w', KP w0 p N S (rI v' (I ++ J) :: rI v2 J :: l) w' → wpList Try.prog ops Q rest (a.put o.dst v') w') : wpList Try.prog ops Q (o :: rest) a w := by
  obtain ⟨i0, hi, hz0, hz1, hz2⟩ := info_parts intInfoM
  obtain ⟨a2, c, e, hr⟩ := RecsAt.of_owns (enc := encI) (s := 1) (L := J) (h.2.1 (rI v2 J) (by simp))
  obtain ⟨ad, rfl, hsrc⟩ := hr.src encI_len hJ
  refine wpList_append_wat _ hgd s x 46 ho 0 3 i0 _ 1 8 Try.underlying46 hi hz0 hz1 hz2 rfl (by decide) v I.length (recV encI I) (h.2.1 _ List.mem_cons_self) (Nat.zero_le _) hs ad J.length c hJ (recV encI J) (hx.trans e) (recV_len encI_len J) hsrc (recV_one encI_one J) (by unfold maxLen; omega) (by omega) ?_
  intro v' w' hown ho hwh
  refine hK v' w' (h.grow ho ?_ hwh)
  show w'.ownsRow 0 3 1 v' (I ++ J).length (recV encI (I ++ J))
  rw [List.length_append, recV_append]
  exact hown
end
theorem new_kp (n : Int) (w : World) : Calls Try.prog 9 #[.int .i64 n] w fun e w' => ∃ p, e = .returned (.pointer (some ⟨p, 0, none⟩)) ∧ KP w p (clN n) [] [] w' :=
  (new_ps n w).mono fun _ w' ⟨p, e, h⟩ => ⟨p, e, (h.aside (Below.refl _ w')).fewer (fun _ ⟨_, hr, _⟩ => absurd hr List.not_mem_nil), fun _ hr => absurd hr List.not_mem_nil, List.Pairwise.nil, fun _ hr => absurd hr List.not_mem_nil⟩
theorem put_kpy (h : KP w0 p N S l w) (x y : Int) (hl : S.length < 2 * N) : Calls Try.prog 12 #[.pointer (some ⟨p, 0, none⟩), .agg #[.int .i64 x, .int .i64 y]] w fun e w' => e = .returned (.bool true) ∧ KP w0 p N (S ++ [(x, y)]) l w' :=
  (put_yesB h.1 x y hl).mono fun _ _ ⟨e, h1, h2⟩ => ⟨e, h.turn h1 h2⟩
theorem put_kpn (h : KP w0 p N S l w) (x y : Int) (hl : ¬ S.length < 2 * N) : Calls Try.prog 12 #[.pointer (some ⟨p, 0, none⟩), .agg #[.int .i64 x, .int .i64 y]] w fun e w' => e = .returned (.bool false) ∧ KP w0 p N S l w' := by
  obtain ⟨M, L, O, e, hM, hB, hlo, rfl, hO, hq⟩ := h.1
  have h1 := pile_full (x := (x, y)) hM.hl hO hM.n1 hl
  have he := e
  subst he
  refine (put_any hM x y).mono ?_
  rintro e2 w1 ⟨M2, rfl, hM2, hT2⟩
  rw [h1] at hM2 ⊢
  obtain ⟨h3, h4⟩ := PSB.turn rfl hB hlo hq hM2 hT2 rfl hO
  exact ⟨rfl, h.turn h3 h4⟩
theorem get_kpy {x y : Int} (h : KP w0 p N (S ++ [(x, y)]) l w) : Calls Try.prog 14 #[.pointer (some ⟨p, 0, none⟩)] w fun e w' => e = .returned (.tuple #[.agg #[.int .i64 x, .int .i64 y], .bool true]) ∧ KP w0 p N S l w' :=
  (get_yesB h.1).mono fun _ _ ⟨e, h1, h2⟩ => ⟨e, h.turn h1 h2⟩
theorem get_kpn (h : KP w0 p N [] l w) : Calls Try.prog 14 #[.pointer (some ⟨p, 0, none⟩)] w fun e w' => e = .returned (.tuple #[.agg #[.int .i64 0, .int .i64 0], .bool false]) ∧ KP w0 p N [] l w' := by
  obtain ⟨M, L, O, e, hM, hB, hlo, hs, hO, hq⟩ := h.1
  obtain ⟨rfl, rfl⟩ := List.append_eq_nil_iff.1 hs
  have he := e
  subst he
  refine (get_any hM).mono ?_
  rintro e2 w1 ⟨M2, rfl, hM2, hT2⟩
  have h1 : getM [] [] = (false, (0, 0), [], []) := getM_none rfl rfl
  rw [h1] at hM2 ⊢
  obtain ⟨h3, h4⟩ := PSB.turn rfl hB hlo hq hM2 hT2 rfl hO
  exact ⟨rfl, h.turn h3 h4⟩
/-- Load, of a pile. -/
def ldM (N : Nat) (m S : Obs) : Int × Obs := if m.length = 0 ∨ N < m.length then (2, S) else if 0 < S.length then (80, S) else (0, m)
theorem load_kp {m : Obs} (h : KP w0 p N S l w) (hs : SrcO w v m) : Calls Try.prog 16 #[.pointer (some ⟨p, 0, none⟩), v] w fun e w' => e = .returned (.int .i64 (ldM N m S).1) ∧ KP w0 p N (ldM N m S).2 l w' := by
  obtain ⟨M, L, O, e, hM, hB, hlo, rfl, hO, hq⟩ := h.1
  have he := e
  subst he
  refine (load_any hM hs).mono ?_
  rintro e2 w1 ⟨M2, rfl, hM2, hT2⟩
  have key : (ldM N m (O ++ L)).1 = (loadM N m L O).1 ∧ O ++ (loadM N m L O).2 = (ldM N m (O ++ L)).2 := by
    unfold ldM loadM
    split
    · exact ⟨rfl, rfl⟩
    · rw [List.length_append, Nat.add_comm O.length]
      split
      · exact ⟨rfl, rfl⟩
      · rename_i h0
        obtain rfl : O = [] := List.eq_nil_of_length_eq_zero (by omega)
        exact ⟨rfl, rfl⟩
  obtain ⟨h3, h4⟩ := PSB.turn rfl hB hlo hq hM2 hT2 key.2 hO
  exact ⟨by rw [key.1], h.turn h3 h4⟩
/-- Unload, of a pile. -/
def unS (N : Nat) (S : Obs) : Int × Obs × Obs := if S.length < 2 * N then (80, [], S) else (0, S.take N, S.drop N)
theorem unl_kp (h : KP w0 p N S l w) : Calls Try.prog 18 #[.pointer (some ⟨p, 0, none⟩)] w fun e w' => ∃ v, e = .returned (.tuple #[v, .int .i64 (unS N S).1]) ∧ KP w0 p N (unS N S).2.2 (rO v (unS N S).2.1 :: l) w' := by
  obtain ⟨M, L, O, e, hM, hB, hlo, rfl, hO, hq⟩ := h.1
  have hln := hM.hl
  have hon := hM.ho
  have he := e
  subst he
  refine (unload_any hM).mono ?_
  rintro e2 w1 ⟨M2, v, rfl, hv, hM2, hT2, hn⟩
  have key : unS N (O ++ L) = ((unlM N L O).1, (unlM N L O).2.1, (unlM N L O).2.2 ++ L) ∧ ((unlM N L O).2.2.length = 0 ∨ (unlM N L O).2.2.length = N) := by
    unfold unS unlM
    rw [List.length_append, Nat.add_comm O.length]
    split
    · exact ⟨rfl, hO⟩
    · have hoN : O.length = N := by omega
      refine ⟨?_, .inl rfl⟩
      rw [← hoN, List.take_left, List.drop_left]
      rfl
  rw [key.1]
  obtain ⟨⟨M3, L3, O3, e3, hM3, hB3, hl3, hs3, hO3, hq3⟩, ho⟩ := PSB.turn rfl hB hlo hq hM2 hT2 rfl key.2
  refine ⟨v, rfl, ⟨M2, L, (unlM N L O).2.2, hT2.pp, hM2, hT2.only.below hB hB.size hlo, fun k hk => (hT2.has k hk).elim (hlo k) (fun h => Nat.le_trans hB.size h), rfl, key.2, ?_⟩, ?_, ?_, ?_⟩
  · rintro k ⟨r2, hr2, hk⟩
    rcases List.mem_cons.1 hr2 with rfl | hr2
    · exact ⟨(hn k hk).2, Nat.lt_of_lt_of_le (hM.lt (hn k hk).1) hT2.only.size⟩
    · have h2 := hq k ⟨r2, hr2, hk⟩
      refine ⟨fun hm => ?_, Nat.lt_of_lt_of_le h2.2 hT2.only.size⟩
      rcases hT2.has k hm with h3 | h3
      · exact h2.1 h3
      · have := h2.2; omega
  · intro r2 hr2
    rcases List.mem_cons.1 hr2 with rfl | hr2
    · exact hv
    · exact owns_only (h.2.1 r2 hr2) ho (fun k hk hn => hn ⟨r2, hr2, hk⟩)
  · refine List.pairwise_cons.2 ⟨fun r2 hr2 k hk h2 => ?_, h.2.2.1⟩
    exact (hq k ⟨r2, hr2, h2⟩).1 (hn k hk).1
  · intro r2 hr2 k hk
    rcases List.mem_cons.1 hr2 with rfl | hr2
    · exact hlo k (hn k hk).1
    · exact h.2.2.2 r2 hr2 k hk
theorem all_kp (h : KP w0 p N S l w) : Calls Try.prog 21 #[.pointer (some ⟨p, 0, none⟩)] w fun e w' => ∃ v, e = .returned v ∧ KP w0 p N S (rO v S :: l) w' := by
  obtain ⟨M, L, O, e, hM, hB, hlo, rfl, hO, hq⟩ := h.1
  subst e
  refine (all_any hM).mono ?_
  rintro e2 w1 ⟨v, rfl, hv, hb⟩
  exact ⟨v, rfl, h.fresh hb (owns_base hv (fun _ _ => Nat.zero_le _)) (fun k hk => (hv.lt k hk).1)⟩
theorem len_kp (h : KP w0 p N S l w) : Calls Try.prog 23 #[.pointer (some ⟨p, 0, none⟩)] w fun e w' => e = .returned (.int .i64 S.length) ∧ KP w0 p N S l w' := by
  obtain ⟨M, L, O, e, hM, hB, hlo, rfl, hO, hq⟩ := h.1
  subst e
  refine (len_any hM).mono ?_
  rintro e2 w1 ⟨rfl, hb⟩
  exact ⟨by rw [List.length_append, Nat.add_comm], h.later hb⟩
theorem rounds_kp (h : KP w0 p N S l w) : Calls Try.prog 11 #[.pointer (some ⟨p, 0, none⟩)] w fun e w' => e = .returned (.int .i64 N) ∧ w = w' := rounds_ps h.1.ps
end
end Go.Proofs.Ytaadjgnfihkaeaa
