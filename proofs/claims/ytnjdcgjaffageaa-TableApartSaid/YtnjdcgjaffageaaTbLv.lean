/-
  table's laws: TableLeaves: the leaves that are told, by numbers; the law's state, round by round.
-/
import Derived.Test.YtnjdcgjaffageaaTbKp
import Derived.Test.YtnjdcgjaffageaaTbOps
namespace Go.Proofs.Ytnjdcgjaffageaa
open Go.RowKit Go.Shelf Go

/-! ### By numbers -/
/-- Where the j-th leaf may be. -/
def nx (L : List (Nat × Nat)) : Nat → Nat
  | 0 => 0
  | j + 1 => (L.getD j (0, 0)).1 + 1
theorem nx_succ {L : List (Nat × Nat)} {j : Nat} (hj : j < L.length) : nx L (j + 1) = (L[j]'hj).1 + 1 := by simp [nx, List.getD, hj]
theorem nx_append {L M : List (Nat × Nat)} {j : Nat} (hj : j ≤ L.length) : nx (L ++ M) j = nx L j := by
  cases j with
  | zero => rfl
  | succ i =>
    rw [nx_succ (by rw [List.length_append]; omega), nx_succ (by omega)]
    rw [List.getElem_append_left (by omega)]
structure TlR (R : Nat → Nat) (n : Nat) (L : List (Nat × Nat)) : Prop where
  val : ∀ j (hj : j < L.length), (L[j]'hj).2 = R (L[j]'hj).1 ∧ R (L[j]'hj).1 ≠ 0 ∧ nx L j ≤ (L[j]'hj).1 ∧ (L[j]'hj).1 < n
  gap : ∀ j (hj : j < L.length) q, nx L j ≤ q → q < (L[j]'hj).1 → R q = 0
  rest : ∀ q, nx L L.length ≤ q → q < n → R q = 0
  le : nx L L.length ≤ n
theorem leafL_succ (R : Nat → Nat) (n : Nat) : leafL R (n + 1) = if R n = 0 then leafL R n else leafL R n ++ [(n, R n)] := by
  unfold leafL
  rw [List.range_succ, List.filterMap_append]
  by_cases h : R n = 0 <;> simp [h]
theorem leafL_tl (R : Nat → Nat) : ∀ n, TlR R n (leafL R n)
  | 0 => ⟨fun j hj => absurd hj (Nat.not_lt_zero _), fun j hj => absurd hj (Nat.not_lt_zero _), fun q _ h => absurd h (Nat.not_lt_zero _), Nat.le_refl _⟩
  | n + 1 => by
    have T := leafL_tl R n
    rw [leafL_succ]
    generalize leafL R n = L at T
    by_cases h : R n = 0
    · rw [if_pos h]
      refine ⟨fun j hj => ?_, T.gap, fun q h1 h2 => ?_, Nat.le_succ_of_le T.le⟩
      · obtain ⟨a, b, c, d⟩ := T.val j hj
        exact ⟨a, b, c, by omega⟩
      · by_cases e : q = n
        · rw [e, h]
        · exact T.rest q h1 (by omega)
    · rw [if_neg h]
      have hl : (L ++ [(n, R n)]).length = L.length + 1 := by simp
      have hx : ∀ j (hj : j < (L ++ [(n, R n)]).length), (j < L.length ∧ ∃ hj', (L ++ [(n, R n)])[j]'hj = L[j]'hj') ∨ (j = L.length ∧ (L ++ [(n, R n)])[j]'hj = (n, R n)) := fun j hj => by
        by_cases hjl : j < L.length
        · exact .inl ⟨hjl, hjl, List.getElem_append_left hjl⟩
        · obtain rfl : j = L.length := by omega
          exact .inr ⟨rfl, by simp⟩
      refine ⟨fun j hj => ?_, fun j hj q h1 h2 => ?_, fun q h1 h2 => ?_, ?_⟩
      · rcases hx j hj with ⟨h3, h4, e⟩ | ⟨rfl, e⟩
        · rw [e, nx_append (by omega)]
          obtain ⟨a, b, c, d⟩ := T.val j h4
          exact ⟨a, b, c, by omega⟩
        · rw [e, nx_append (Nat.le_refl _)]
          exact ⟨rfl, h, T.le, Nat.lt_succ_self _⟩
      · rcases hx j hj with ⟨h3, h4, e⟩ | ⟨rfl, e⟩
        · rw [e] at h2
          rw [nx_append (by omega)] at h1
          exact T.gap j h4 q h1 h2
        · rw [e] at h2
          rw [nx_append (Nat.le_refl _)] at h1
          exact T.rest q h1 h2
      · rw [hl, nx_succ (by omega)] at h1
        simp at h1
        omega
      · rw [hl, nx_succ (by omega)]
        simp
theorem quo32 (P Q : Nat) (h : P < 1024) (hq : P / 32 = Q) (W : World) : (binOp .quo 3 (.int .i64 P) (.int .i64 32)).run Try.prog W = .ok (.int .i64 Q) W := by
  have hw : IntKind.i64.wrap ((P : Int) / 32) = (Q : Int) := by
    rw [IntKind.wrap_i64]
    omega
  simp [go_sem, hw]
/-! ### The range's box -/
structure NxAt (W0 : World) (bl : Nat) (L : List (Nat × Nat)) (j : Nat) (W : World) : Prop where
  row : RowAt W bl 1 (fun _ => .int .i64 (nx L j))
  only : Only (fun k => k = bl) W0 W
theorem nx_own {W0 : World} {bl : Nat} {L : List (Nat × Nat)} (h : bl < W0.heap.size) : OwnFrom W0.heap.size (fun (pre : List (Fin L.length)) W => NxAt W0 bl L pre.length W) := fun s X Y row i hg hr => by
  have hne : ∀ k, k < W0.heap.size → some k ≠ row := fun k hk e => by have := (hr k e.symm).1; omega
  exact ⟨i.row.block (hg.block bl i.row.lt (hne _ h)),
    ⟨hg.os.trans i.only.os, hg.tape.trans i.only.tape, hg.output.trans i.only.output, Nat.le_trans i.only.size hg.size, fun k hk hs => (hg.block k (Nat.lt_of_lt_of_le hk i.only.size) (hne k hk)).trans (i.only.block k hk hs)⟩⟩
/-- The number that lies there. -/
def cntAt (W : World) (b : Nat) : Nat := match W.cell? ⟨b, 0, none⟩ with
  | some (.int _ n) => n.toNat
  | _ => 0
theorem cntAt_of {W : World} {b k : Nat} (h : W.cell? ⟨b, 0, none⟩ = some (.int .i64 k)) : cntAt W b = k := by simp [cntAt, h]
/-- A round of a loop whose number lies in block b. -/
structure PgAt (V : World) (b k : Nat) (W : World) : Prop where
  pg : RowAt W b 1 (fun _ => .int .i64 k)
  only : Only (fun i => i = b) V W
theorem PgAt.step {V W : World} {b k : Nat} (h : PgAt V b k W) : PgAt V b (k + 1) (W.setCell ⟨b, 0, none⟩ (.int .i64 ((k : Int) + 1))) :=
  ⟨(h.pg.setCell 0 _).ext (fun i hi => by
    obtain rfl : i = 0 := by omega
    simp [updV]), h.only.trans (Only.setCell (S := fun i => i = b) _ ⟨b, 0, none⟩ rfl _)⟩
theorem PgAt.later {V W W' : World} {b k : Nat} (h : PgAt V b k W) (hb : Below W.heap.size W W') : PgAt V b k W' := ⟨h.pg.later hb, h.only.trans (Only.of_below hb)⟩
/-- A range with two variables that lie in slots of their own. -/
theorem range_o2 {F : Fence} {n : Nat} {P : Program} {w : World} {α : Type} {g : Operand} {p1 p2 : Tmp} {assign body : Code} {Q : Exit → Act → World → Prop} {a : Act}
    (hro : F.round = none) (h1 : 1 ≤ n) {gf : Nat} {lb : Array Value} (hg : a.eval g = .func (.func gf) #[] lb) (hFg : F.fn gf) (eg : ∀ args w, (callFunc gf args).run P w = .ok (.enter gf args) w)
    {encs : α → Array Value} {Kp : Nat → World → World → Prop} {O S Sp : List α → Prop} (hseq : SeqO F (n - 1) P gf lb encs Kp O S Sp w) (v1 v2 : α → Value) (henc : ∀ x, encs x = #[v1 x, v2 x])
    (hKt : ∀ {l : Nat} {A B C : World}, Kp l A B → Kp l B C → Kp l A C) (hKb : ∀ (W : World) (l : Nat) (o o' : Obj), w.heap.size ≤ l → W.heap[l]? = some o → o.isCells = false → Kp l W (W.putObj l o'))
    (I : List α → World → Prop) (Ix : Code → List α → World → Prop) (hI : OwnFrom w.heap.size I) (hIx : ∀ c, OwnFrom w.heap.size (Ix c)) (h0 : I [] w) (s1 s2 : Nat)
    (hassign : ∀ (l : Nat) (pre : List α) (x : α) (W : World) (K : Act → World → Prop), w.heap.size ≤ l → I pre W →
      (∀ W', KeepsFrom w.heap.size W W' → I pre W' → Kp l W W' → K { tmps := (((a.tmps.setIfInBounds p1 (v1 x)).setIfInBounds p2 (v2 x)).setIfInBounds s1 (v1 x)).setIfInBounds s2 (v2 x), defers := [] } W') →
      assign.wpIn (F.inRound l) (n - 1 - 1) P (Exit.then K (fun _ _ _ => False)) { tmps := (a.tmps.setIfInBounds p1 (v1 x)).setIfInBounds p2 (v2 x), defers := [] } W)
    (hbody : ∀ (l : Nat) (pre : List α) (x : α) (W0 W : World), w.heap.size ≤ l → I pre W → Kp l W0 W → O (pre ++ [x]) →
      body.wpIn (F.inRound l) (n - 1 - 1) P (soloPost w.heap.size (fun _ => Kp l W0) I Ix (pre ++ [x]) W) { tmps := (((a.tmps.setIfInBounds p1 (v1 x)).setIfInBounds p2 (v2 x)).setIfInBounds s1 (v1 x)).setIfInBounds s2 (v2 x), defers := [] } W)
    (hdone : ∀ (D : Nat) (xs : List α) (W : World), w.heap.size ≤ D → S xs → I xs W → W.heap[D]? = some (.deferred (some [])) → Q .normal { a with defers := { target := .collected D, args := #[] } :: a.defers } W)
    (hstop : ∀ (D : Nat) (c : Code) (pre : List α) (W : World), w.heap.size ≤ D → Sp pre → Ix c pre W → W.heap[D]? = some (.deferred (some [])) → c.wpIn F n P Q { a with defers := { target := .collected D, args := #[] } :: a.defers } W) :
    (Code.rangeFunc g #[p1, p2] assign body).wpIn F n P Q a w := by
  have hf : ∀ x, ((#[p1, p2] : Array Tmp).zip (encs x)).foldl (fun t (p, v) => t.setIfInBounds p v) a.tmps = (a.tmps.setIfInBounds p1 (v1 x)).setIfInBounds p2 (v2 x) := fun x => by
    rw [henc x]
    simp
  refine range_o hro h1 hg hFg eg hseq hKt hKb (fun x => by rw [henc x]; rfl) I Ix hI hIx h0
    (fun l W0 x a' W' => a' = { tmps := (((a.tmps.setIfInBounds p1 (v1 x)).setIfInBounds p2 (v2 x)).setIfInBounds s1 (v1 x)).setIfInBounds s2 (v2 x), defers := [] } ∧ Kp l W0 W')
    (fun l _ _ _ W o o' hl h hb ho => ⟨h.1, hKt h.2 (hKb W l o o' hl hb ho)⟩)
    (fun l pre x W K hl hi hK => ?_)
    (fun l pre x a' W0 W hl hi hax hlen => by obtain ⟨rfl, r⟩ := hax; exact hbody l pre x W0 W hl hi r hlen) hdone hstop
  rw [hf x]
  exact hassign l pre x W K hl hi fun W' k1 k3 k4 => hK _ _ k1 k3 ⟨rfl, k4⟩
/-! ### The law's state -/
structure LvAt (IsT : Thg → Nat → (Nat → Nat) → (Nat → Nat → Ent) → Prop) (w0 : World) (m wb : Nat) (R : Nat → Nat) (Ds : List Nat) (Q : Nat → Prop) (W : World) : Prop where
  mem : MKP IsT w0 m R (fun _ _ => (0, 0)) (fun k => k = wb ∨ k ∈ Ds ∨ Q k) W
  row : RowAt W wb 32 (fun i => .int .i64 (R i))
  r3 : ∀ i, R i ≤ 3
  lo : w0.heap.size ≤ wb
  nd : Ds.Nodup
  ds : ∀ D ∈ Ds, W.heap[D]? = some (.deferred (some [])) ∧ w0.heap.size ≤ D
section
variable {IsT : Thg → Nat → (Nat → Nat) → (Nat → Nat → Ent) → Prop} {w0 W W' : World} {m wb : Nat} {R : Nat → Nat} {Ds : List Nat} {Q Q' : Nat → Prop}
theorem LvAt.bel (h : LvAt IsT w0 m wb R Ds Q W) : Below w0.heap.size w0 W := h.mem.mk.bel
theorem LvAt.later (h : LvAt IsT w0 m wb R Ds Q W) (hb : Below W.heap.size W W') : LvAt IsT w0 m wb R Ds Q W' :=
  ⟨h.mem.later hb, h.row.later hb, h.r3, h.lo, h.nd, fun D hD => ⟨(hb.block D (Array.getElem?_eq_some_iff.1 (h.ds D hD).1).1).trans (h.ds D hD).1, (h.ds D hD).2⟩⟩
/-- A box more. -/
theorem LvAt.add (h : LvAt IsT w0 m wb R Ds Q W) (hb : Below W.heap.size W W') (hq : ∀ k, Q' k → Q k ∨ W.heap.size ≤ k ∧ k < W'.heap.size) : LvAt IsT w0 m wb R Ds Q' W' :=
  ⟨h.mem.add hb (fun k hk => by
    rcases hk with h1 | h1 | h1
    · exact .inl (.inl h1)
    · exact .inl (.inr (.inl h1))
    · rcases hq k h1 with h2 | h2
      · exact .inl (.inr (.inr h2))
      · exact .inr h2), (h.later hb).row, h.r3, h.lo, h.nd, (h.later hb).ds⟩
/-- The memory turns; so does what is wanted. -/
theorem LvAt.turn (h : LvAt IsT w0 m wb R Ds Q W) (ho : Only (fun k => ¬ (k = wb ∨ k ∈ Ds ∨ Q k)) W W') :
    RowAt W' wb 32 (fun i => .int .i64 (R i)) ∧ ∀ D ∈ Ds, W'.heap[D]? = some (.deferred (some [])) ∧ w0.heap.size ≤ D :=
  ⟨h.row.only ho (fun hn => hn (.inl rfl)), fun D hD => ⟨(ho.block D (Array.getElem?_eq_some_iff.1 (h.ds D hD).1).1 (fun hn => hn (.inr (.inl hD)))).trans (h.ds D hD).1, (h.ds D hD).2⟩⟩
theorem LvAt.same (h : LvAt IsT w0 m wb R Ds Q W) (hm : MKP IsT w0 m R (fun _ _ => (0, 0)) (fun k => k = wb ∨ k ∈ Ds ∨ Q k) W') (ho : Only (fun k => ¬ (k = wb ∨ k ∈ Ds ∨ Q k)) W W') : LvAt IsT w0 m wb R Ds Q W' :=
  ⟨hm, (h.turn ho).1, h.r3, h.lo, h.nd, (h.turn ho).2⟩
/-- A leaf is set, and wanted. -/
theorem LvAt.want (h : LvAt IsT w0 m wb R Ds Q W) {p l : Nat} (hl : l ≤ 3) (hm : MKP IsT w0 m (setR R p l) (fun _ _ => (0, 0)) (fun k => k = wb ∨ k ∈ Ds ∨ Q k) W') (ho : Only (fun k => ¬ (k = wb ∨ k ∈ Ds ∨ Q k)) W W') :
    LvAt IsT w0 m wb (setR R p l) Ds Q (W'.setCell ⟨wb, p, none⟩ (.int .i64 l)) := by
  obtain ⟨h1, h2⟩ := h.turn ho
  have hst : Only (fun k => k = wb) W' (W'.setCell ⟨wb, p, none⟩ (.int .i64 l)) := Only.setCell (S := fun k => k = wb) W' ⟨wb, p, none⟩ rfl _
  have hwb : W'.heap[wb]? ≠ some (.deferred (some [])) := by
    obtain ⟨A, t, hA, _⟩ := h1
    rw [hA]
    intro e
    cases e
  refine ⟨hm.own hst (fun _ hk => .inl hk) (fun k hk => by rw [hk]; exact h.lo), (h1.setCell p (.int .i64 l)).ext (fun i _ => ?_), fun i => ?_, h.lo, h.nd, fun D hD => ⟨?_, (h2 D hD).2⟩⟩
  · unfold updV setR
    split <;> rfl
  · unfold setR
    split
    · exact hl
    · exact h.r3 i
  · have hne : ¬ D = wb := fun e => hwb (by rw [← e]; exact (h2 D hD).1)
    exact (hst.block D (Array.getElem?_eq_some_iff.1 (h2 D hD).1).1 hne).trans (h2 D hD).1
/-- A box of the law's turns. -/
theorem LvAt.only {C : Nat → Prop} (h : LvAt IsT w0 m wb R Ds Q W) (ho : Only C W W') (hC : ∀ k, C k → Q k ∧ w0.heap.size ≤ k ∧ k ≠ wb ∧ k ∉ Ds) : LvAt IsT w0 m wb R Ds Q W' :=
  ⟨h.mem.own ho (fun k hk => .inr (.inr (hC k hk).1)) (fun k hk => (hC k hk).2.1), h.row.only ho (fun hk => (hC wb hk).2.2.1 rfl), h.r3, h.lo, h.nd, fun D hD => ⟨(ho.block D (Array.getElem?_eq_some_iff.1 (h.ds D hD).1).1 (fun hk => (hC D hk).2.2.2 hD)).trans (h.ds D hD).1, (h.ds D hD).2⟩⟩
/-- The range's block is one more; its box is no more asked for. -/
theorem LvAt.more {C : Nat → Prop} {D : Nat} (h : LvAt IsT w0 m wb R Ds Q W) (ho : Only C W W') (hC : ∀ k, C k → Q k ∧ w0.heap.size ≤ k ∧ k ≠ wb ∧ k ∉ Ds) (hd : W'.heap[D]? = some (.deferred (some []))) (hD : W.heap.size ≤ D) (hQ : ∀ k, Q' k → Q k) : LvAt IsT w0 m wb R (D :: Ds) Q' W' := by
  have h2 := h.only ho hC
  have hs : D < W'.heap.size := (Array.getElem?_eq_some_iff.1 hd).1
  have hle := h.bel.size
  have hDs : D ∉ Ds := fun hk => by have := (Array.getElem?_eq_some_iff.1 (h.ds D hk).1).1; omega
  refine ⟨?_, h2.row, h.r3, h.lo, List.nodup_cons.2 ⟨hDs, h.nd⟩, fun E hE => ?_⟩
  · obtain ⟨X, h3, h4, h5, h6, h7⟩ := h.mem
    refine ⟨X, h3, X.only C W W' h4 ho (fun k hk hc => (h6 k hk).2 (.inr (.inr (hC k hc).1))), ho.below h5 h5.size (fun k hk => (hC k hk).2.1), fun k hk => ⟨(h6 k hk).1, fun hp => ?_⟩, fun k hk => ?_⟩
    · have h8 := X.lt W h4 k hk
      rcases hp with h9 | h9 | h9
      · exact (h6 k hk).2 (.inl h9)
      · rcases List.mem_cons.1 h9 with rfl | h9
        · omega
        · exact (h6 k hk).2 (.inr (.inl h9))
      · exact (h6 k hk).2 (.inr (.inr (hQ k h9)))
    · rcases hk with h9 | h9 | h9
      · rw [h9]; exact h2.row.lt
      · rcases List.mem_cons.1 h9 with rfl | h9
        · exact hs
        · exact (Array.getElem?_eq_some_iff.1 (h2.ds k h9).1).1
      · exact Nat.lt_of_lt_of_le (h7 k (.inr (.inr (hQ k h9)))) ho.size
  · rcases List.mem_cons.1 hE with rfl | hE
    · exact ⟨hd, by omega⟩
    · exact h2.ds E hE
end
/-- The law's frame at the head of a round. -/
def lvF (u : Nat → Value) (a : Option Addr) (len cap : Nat) (a2 : Option Addr) (len2 cap2 rb m wb k : Nat) : List Value := [.slice a len cap, .slice a2 len2 cap2, u 2, u 3, .pointer (some ⟨rb, 0, none⟩), .pointer (some ⟨m, 0, none⟩), u 6, .pointer (some ⟨wb, 0, none⟩), u 8, u 9, u 10, u 11, u 12, u 13, u 14, u 15, u 16, u 17, u 18, u 19, u 20, u 21, u 22, u 23, u 24, u 25, u 26, u 27, u 28, u 29, u 30, u 31, u 32, u 33, u 34, u 35, u 36, u 37, u 38, u 39, u 40, u 41, u 42, u 43, u 44, u 45, u 46, .int .i64 len, .int .i64 k, u 49, u 50, u 51, u 52, u 53, u 54, u 55, u 56, u 57, u 58, u 59, u 60, u 61, u 62, u 63, u 64, u 65, u 66, u 67, u 68, u 69, u 70, u 71, u 72, u 73, u 74, u 75, u 76, u 77, u 78, u 79, u 80, u 81, u 82, u 83, u 84, u 85, u 86, u 87, u 88, u 89, u 90, u 91, u 92, u 93, u 94, u 95, u 96, u 97, u 98, u 99, u 100, u 101, u 102, u 103, u 104, u 105, u 106, u 107, u 108, u 109, u 110, u 111, u 112, u 113, u 114, u 115, u 116, u 117, u 118, u 119, u 120, u 121, u 122, u 123, u 124, u 125, u 126, u 127, u 128, u 129, u 130, u 131, u 132, u 133, u 134, u 135, u 136, u 137, u 138, u 139]
theorem lv_frame {t : Array Value} {a : Option Addr} {len cap : Nat} {a2 : Option Addr} {len2 cap2 rb m wb k : Nat} (hs : t.size = 140) (h0 : t[0]? = some (Value.slice a len cap)) (h1 : t[1]? = some (Value.slice a2 len2 cap2)) (h4 : t[4]? = some (Value.pointer (some ⟨rb, 0, none⟩))) (h5 : t[5]? = some (Value.pointer (some ⟨m, 0, none⟩))) (h7 : t[7]? = some (Value.pointer (some ⟨wb, 0, none⟩))) (h47 : t[47]? = some (Value.int .i64 len)) (h48 : t[48]? = some (Value.int .i64 k)) :
    ∃ u, t = (lvF u a len cap a2 len2 cap2 rb m wb k).toArray := by
  refine ⟨fun i => t.getD i undef, ?_⟩
  have hu : ∀ i v, t[i]? = some v → t.getD i undef = v := fun i v h => by
    obtain ⟨hl, rfl⟩ := Array.getElem?_eq_some_iff.1 h
    simp [Array.getD, hl]
  have e : t = ((List.range 140).map fun i => t.getD i undef).toArray := by
    apply Array.ext
    · simp [hs]
    · intro i h1 h2
      simp [Array.getD, h1]
  refine e.trans ?_
  congr 1
  obtain ⟨u, hu2⟩ : ∃ u : Nat → Value, u = fun i => t.getD i undef := ⟨_, rfl⟩
  rw [← hu2]
  unfold lvF
  rw [← (show u 0 = .slice a len cap by rw [hu2]; exact hu 0 _ h0)]
  rw [← (show u 1 = .slice a2 len2 cap2 by rw [hu2]; exact hu 1 _ h1)]
  rw [← (show u 4 = .pointer (some ⟨rb, 0, none⟩) by rw [hu2]; exact hu 4 _ h4)]
  rw [← (show u 5 = .pointer (some ⟨m, 0, none⟩) by rw [hu2]; exact hu 5 _ h5)]
  rw [← (show u 7 = .pointer (some ⟨wb, 0, none⟩) by rw [hu2]; exact hu 7 _ h7)]
  rw [← (show u 47 = .int .i64 len by rw [hu2]; exact hu 47 _ h47)]
  rw [← (show u 48 = .int .i64 k by rw [hu2]; exact hu 48 _ h48)]
  rfl
end Go.Proofs.Ytnjdcgjaffageaa
