/-
  areas' laws: AreasRuns: what one more run is; the law's state, round by round.
-/
import Derived.Test.YthnkbipdlepbaaaArStep
import Derived.Test.YthnkbipdlepbaaaArSame
namespace Go.Proofs.Ythnkbipdlepbaaa
open Go.RowKit Go.Shelf Go

/-! ### By numbers -/
/-- The run ahead of the j-th. -/
def lastRu (L : Rns) : Nat → Nat × Nat × Nat
  | 0 => (0, 0, 0)
  | j + 1 => L.getD j (0, 0, 0)
theorem lastR_succ {L : Rns} {j : Nat} (hj : j < L.length) : lastRu L (j + 1) = L[j]'hj := by simp [lastRu, List.getD, hj]
structure StepR (f : Nat → Nat) (z x : Nat × Nat × Nat) (j : Nat) : Prop where
  c1 : 1 ≤ x.2.1
  ris : z.1 + z.2.1 ≤ x.1
  fit : x.1 + x.2.1 ≤ 1024
  r1 : 1 ≤ x.2.2
  r3 : x.2.2 ≤ 3
  ne : 0 < j → x.1 = z.1 + z.2.1 → x.2.2 ≠ z.2.2
  gap : ∀ k, z.1 + z.2.1 ≤ k → k < x.1 → f k = 0
  val : ∀ k, x.1 ≤ k → k < x.1 + x.2.1 → f k = x.2.2
theorem step_run {f : Nat → Nat} (hf : ∀ i, f i ≤ 3) {j : Nat} (hj : j < (rns f).length) : StepR f (lastRu (rns f) j) ((rns f)[j]'hj) j := by
  have D : Desc f 1024 (rns f) := runs_desc f 1024
  generalize rns f = L at *
  have hm := List.getElem_mem hj
  obtain ⟨p1, p2, p3⟩ := D.pos _ hm
  have hv := D.val _ hm
  have hris := List.pairwise_iff_getElem.1 D.ris
  have h3 : (L[j]'hj).2.2 ≤ 3 := by
    have := hv (L[j]'hj).1 (Nat.le_refl _) (by omega)
    rw [← this]
    exact hf _
  have hz : (lastRu L j).1 + (lastRu L j).2.1 ≤ (L[j]'hj).1 ∧ (0 < j → (L[j]'hj).1 = (lastRu L j).1 + (lastRu L j).2.1 → (L[j]'hj).2.2 ≠ (lastRu L j).2.2) := by
    cases j with
    | zero => exact ⟨by simp [lastRu], fun h => absurd h (by omega)⟩
    | succ i =>
      rw [lastR_succ (by omega)]
      have h := hris i (i + 1) (by omega) hj (by omega)
      exact ⟨h.1, fun _ e h2 => h.2 e.symm h2.symm⟩
  refine ⟨p1, hz.1, p3, p2, h3, hz.2, fun k h1 h2 => ?_, hv⟩
  apply Classical.byContradiction
  intro hne
  obtain ⟨y, hy, y1, y2⟩ := D.cov k (by omega) hne
  obtain ⟨i, hi, rfl⟩ := List.getElem_of_mem hy
  rcases Nat.lt_trichotomy i j with hlt | rfl | hgt
  · cases j with
    | zero => omega
    | succ q =>
      rw [lastR_succ (by omega)] at h1
      rcases Nat.lt_or_ge i q with h | h
      · have := (hris i q hi (by omega) h).1
        omega
      · obtain rfl : i = q := by omega
        omega
  · omega
  · have := (hris j i hj hi hgt).1
    omega
theorem rgV_at {f : Nat → Nat} {k : Nat} (h : k < 1024) : rgV f (k : Int) = f k := by
  unfold rgV
  rw [if_pos ⟨by omega, by omega⟩, Int.toNat_natCast]
/-! ### The range's boxes -/
structure RnAt (W0 : World) (bl : Nat) (L : Rns) (j : Nat) (W : World) : Prop where
  last : RowAt W bl 3 (rnV (lastRu L j))
  cn : RowAt W (bl + 1) 1 (fun _ => .int .i64 j)
  end' : RowAt W (bl + 2) 1 (fun _ => .int .i64 ((lastRu L j).1 + (lastRu L j).2.1 : Nat))
  only : Only (fun k => k = bl ∨ k = bl + 1 ∨ k = bl + 2) W0 W
theorem RnAt.later {W0 W W' : World} {bl : Nat} {L : Rns} {j : Nat} (h : RnAt W0 bl L j W) (hb : Below W.heap.size W W') : RnAt W0 bl L j W' :=
  ⟨h.last.later hb, h.cn.later hb, h.end'.later hb, h.only.trans (Only.of_below hb)⟩
theorem rn_own {W0 : World} {bl : Nat} {L : Rns} (h : bl + 2 < W0.heap.size) : OwnFrom W0.heap.size (fun (pre : List (Fin L.length)) W => RnAt W0 bl L pre.length W) := fun s X Y row i hg hr => by
  have hne : ∀ k, k < W0.heap.size → some k ≠ row := fun k hk e => by have := (hr k e.symm).1; omega
  exact ⟨i.last.block (hg.block bl i.last.lt (hne _ (by omega))), i.cn.block (hg.block (bl + 1) i.cn.lt (hne _ (by omega))), i.end'.block (hg.block (bl + 2) i.end'.lt (hne _ h)),
    ⟨hg.os.trans i.only.os, hg.tape.trans i.only.tape, hg.output.trans i.only.output, Nat.le_trans i.only.size hg.size, fun k hk hs => (hg.block k (Nat.lt_of_lt_of_le hk i.only.size) (hne k hk)).trans (i.only.block k hk hs)⟩⟩
/-- The number that lies there. -/
def cntAt (W : World) (b : Nat) : Nat := match W.cell? ⟨b, 0, none⟩ with
  | some (.int _ n) => n.toNat
  | _ => 0
theorem cntAt_of {W : World} {b k : Nat} (h : W.cell? ⟨b, 0, none⟩ = some (.int .i64 k)) : cntAt W b = k := by simp [cntAt, h]
/-- A round of the pages' loop: the next page lies in block b. -/
structure PgAt (V : World) (b k : Nat) (W : World) : Prop where
  pg : RowAt W b 1 (fun _ => .int .i64 k)
  only : Only (fun i => i = b) V W
theorem PgAt.later {V W W' : World} {b k : Nat} (h : PgAt V b k W) (hb : Below W.heap.size W W') : PgAt V b k W' := ⟨h.pg.later hb, h.only.trans (Only.of_below hb)⟩
theorem PgAt.step {V W : World} {b k : Nat} (h : PgAt V b k W) : PgAt V b (k + 1) (W.setCell ⟨b, 0, none⟩ (.int .i64 ((k : Int) + 1))) :=
  ⟨(h.pg.setCell 0 _).ext (fun i hi => by
    obtain rfl : i = 0 := by omega
    simp [updV]), h.only.trans (Only.setCell (S := fun i => i = b) _ ⟨b, 0, none⟩ rfl _)⟩
/-- One run more. -/
theorem RnAt.next {W0 V wr : World} {bl j y1 y2 y3 : Nat} {L : Rns} {f : Nat → Value} {c v : Value} (hl : RowAt wr bl 3 f) (hn : RowAt wr (bl + 1) 1 (fun _ => c)) (hp : PgAt V (bl + 2) (y1 + y2) wr) (ho : Only (fun k => k = bl ∨ k = bl + 1 ∨ k = bl + 2) W0 V) (hL : lastRu L (j + 1) = (y1, y2, y3)) (hv : v = .int .i64 ((j + 1 : Nat) : Int)) :
    RnAt W0 bl L (j + 1) ((((wr.setCell ⟨bl, 0, none⟩ (.int .i64 y1)).setCell ⟨bl, 1, none⟩ (.int .i64 y2)).setCell ⟨bl, 2, none⟩ (.int .u8 y3)).setCell ⟨bl + 1, 0, none⟩ v) ∧
    Only (fun k => k = bl ∨ k = bl + 1 ∨ k = bl + 2) V ((((wr.setCell ⟨bl, 0, none⟩ (.int .i64 y1)).setCell ⟨bl, 1, none⟩ (.int .i64 y2)).setCell ⟨bl, 2, none⟩ (.int .u8 y3)).setCell ⟨bl + 1, 0, none⟩ v) := by
  have o1 := Only.setCell (S := fun k => k = bl) wr ⟨bl, 0, none⟩ rfl (.int .i64 y1)
  have r1 := hl.setCell 0 (.int .i64 y1)
  generalize wr.setCell ⟨bl, 0, none⟩ (.int .i64 y1) = w1 at *
  have o2 := Only.setCell (S := fun k => k = bl) w1 ⟨bl, 1, none⟩ rfl (.int .i64 y2)
  have r2 := r1.setCell 1 (.int .i64 y2)
  generalize w1.setCell ⟨bl, 1, none⟩ (.int .i64 y2) = w2 at *
  have o3 := Only.setCell (S := fun k => k = bl) w2 ⟨bl, 2, none⟩ rfl (.int .u8 y3)
  have r3 := r2.setCell 2 (.int .u8 y3)
  generalize w2.setCell ⟨bl, 2, none⟩ (.int .u8 y3) = w3 at *
  have o13 := (o1.trans o2).trans o3
  have n3 := hn.only o13 (by omega)
  have e3 := hp.pg.only o13 (by omega)
  have o4 := Only.setCell (S := fun k => k = bl + 1) w3 ⟨bl + 1, 0, none⟩ rfl v
  have n4 := n3.setCell 0 v
  have r4 := r3.only o4 (by omega)
  have e4 := e3.only o4 (by omega)
  generalize w3.setCell ⟨bl + 1, 0, none⟩ v = w4 at *
  have oV : Only (fun k => k = bl ∨ k = bl + 1 ∨ k = bl + 2) V w4 := ((hp.only.mono fun k h => .inr (.inr h)).trans (o13.mono fun k h => .inl h)).trans (o4.mono fun k h => .inr (.inl h))
  refine ⟨⟨?_, n4.ext (fun i hi => by
    obtain rfl : i = 0 := by omega
    simp [updV, hv]), ?_, ho.trans oV⟩, oV⟩
  · rw [hL]
    refine r4.ext (fun i hi => ?_)
    rcases (show i = 0 ∨ i = 1 ∨ i = 2 by omega) with rfl | rfl | rfl <;> rfl
  · rw [hL]
    exact e4
/-! ### A call by value -/
theorem sizeOp : (Try.prog.info? 30).map (·.size) = some 4 := by kernel_rfl
theorem load_op {W : World} {g o : Nat} {x y z v : Int} (h0 : W.cell? ⟨g, o, none⟩ = some (.int .i64 x)) (h1 : W.cell? ⟨g, o + 1, none⟩ = some (.int .i64 y)) (h2 : W.cell? ⟨g, o + 2, none⟩ = some (.int .i64 z)) (h3 : W.cell? ⟨g, o + 3, none⟩ = some (.int .u8 v)) :
    (loadVar 30 ⟨g, o, none⟩).run Try.prog W = .ok (.agg #[.int .i64 x, .int .i64 y, .int .i64 z, .int .u8 v]) W :=
  run_loadVar_mid (P := Try.prog) W g o 30 [.int .i64 x, .int .i64 y, .int .i64 z, .int .u8 v] _ (fun j u hj => by
    match j, hj with
    | 0, hj => simp at hj; subst hj; exact h0
    | 1, hj => simp at hj; subst hj; exact h1
    | 2, hj => simp at hj; subst hj; exact h2
    | 3, hj => simp at hj; subst hj; exact h3) Try.underlying30 rfl sizeOp
/-- Where the pointer to the areas lies, and the old heap. -/
abbrev PbS (w : World) (pb d : Nat) (U : World) : Prop := Below w.heap.size w U ∧ RowAt U pb 1 (fun _ => .pointer (some ⟨d, 0, none⟩))
theorem PbS.load {w U : World} {pb d : Nat} (h : PbS w pb d U) : (loadVar 23 ⟨pb, 0, none⟩).run Try.prog U = .ok (.pointer (some ⟨d, 0, none⟩)) U :=
  run_loadVar_cell (fun _ => by kernel_rfl) (h.2.cell 0 (by decide))
/-! ### The law's state -/
structure RuAt (IsA : Thg → Nat → (Nat → Nat) → Prop) (w0 : World) (pb d : Nat) (f : Nat → Nat) (X : Thg) (Ds : List Nat) (W : World) : Prop where
  is : IsA X d f
  at' : X.At W
  bel : Below w0.heap.size w0 W
  lo : ∀ k, X.has k → w0.heap.size ≤ k
  box : RowAt W pb 1 (fun _ => .pointer (some ⟨d, 0, none⟩))
  pbx : ¬ X.has pb
  pbl : w0.heap.size ≤ pb
  nd : Ds.Nodup
  ds : ∀ D ∈ Ds, W.heap[D]? = some (.deferred (some [])) ∧ w0.heap.size ≤ D ∧ ¬ X.has D
section
variable {IsA : Thg → Nat → (Nat → Nat) → Prop} {w0 W W' : World} {pb d : Nat} {f g : Nat → Nat} {X Y : Thg} {Ds : List Nat}
theorem RuAt.le (h : RuAt IsA w0 pb d f X Ds W) : w0.heap.size ≤ W.heap.size := h.bel.size
theorem RuAt.later (h : RuAt IsA w0 pb d f X Ds W) (hb : Below W.heap.size W W') : RuAt IsA w0 pb d f X Ds W' :=
  ⟨h.is, X.later h.at' hb, h.bel.trans (hb.mono h.le), h.lo, h.box.later hb, h.pbx, h.pbl, h.nd, fun D hD => ⟨(hb.block D (Array.getElem?_eq_some_iff.1 (h.ds D hD).1).1).trans (h.ds D hD).1, (h.ds D hD).2⟩⟩
theorem RuAt.turn (h : RuAt IsA w0 pb d f X Ds W) (hY : IsA Y d g) (hT : TTurn W X W' Y) : RuAt IsA w0 pb d g Y Ds W' :=
  ⟨hY, hT.at', hT.only.below h.bel h.le h.lo, fun k hk => (hT.new k hk).elim (h.lo k) (fun e => Nat.le_trans h.le e), h.box.only hT.only h.pbx, fun hk => (hT.new pb hk).elim h.pbx (fun e => by have := h.box.lt; omega), h.pbl, h.nd,
    fun D hD => by
      obtain ⟨h1, h2, h3⟩ := h.ds D hD
      have hl := (Array.getElem?_eq_some_iff.1 h1).1
      exact ⟨(hT.only.block D hl h3).trans h1, h2, fun hk => (hT.new D hk).elim h3 (fun e => by omega)⟩⟩
theorem RuAt.only {C : Nat → Prop} (h : RuAt IsA w0 pb d f X Ds W) (ho : Only C W W') (hC : ∀ k, C k → w0.heap.size ≤ k) (hX : ∀ k, X.has k → ¬ C k) (hp : ¬ C pb) (hD : ∀ D ∈ Ds, ¬ C D) : RuAt IsA w0 pb d f X Ds W' :=
  ⟨h.is, X.only _ _ _ h.at' ho hX, ho.below h.bel h.le hC, h.lo, h.box.only ho hp, h.pbx, h.pbl, h.nd, fun D hd => ⟨(ho.block D (Array.getElem?_eq_some_iff.1 (h.ds D hd).1).1 (hD D hd)).trans (h.ds D hd).1, (h.ds D hd).2⟩⟩
theorem RuAt.more {D : Nat} (h : RuAt IsA w0 pb d f X Ds W) (hn : D ∉ Ds) (hd : W.heap[D]? = some (.deferred (some []))) (hl : w0.heap.size ≤ D) (hx : ¬ X.has D) : RuAt IsA w0 pb d f X (D :: Ds) W :=
  ⟨h.is, h.at', h.bel, h.lo, h.box, h.pbx, h.pbl, List.nodup_cons.2 ⟨hn, h.nd⟩, fun E hE => by
    rcases List.mem_cons.1 hE with rfl | hE
    · exact ⟨hd, hl, hx⟩
    · exact h.ds E hE⟩
end
/-- The law's frame at the head of a round. -/
def ruF (u : Nat → Value) (a : Option Addr) (len cap rb pb k : Nat) : List Value := [.slice a len cap, u 1, .pointer (some ⟨rb, 0, none⟩), .pointer (some ⟨pb, 0, none⟩), u 4, u 5, u 6, u 7, u 8, u 9, u 10, u 11, u 12, u 13, u 14, u 15, u 16, u 17, u 18, u 19, u 20, u 21, u 22, u 23, u 24, .int .i64 len, .int .i64 k, u 27, u 28, u 29, u 30, u 31, u 32, u 33, u 34, u 35, u 36, u 37, u 38, u 39, u 40, u 41, u 42, u 43, u 44, u 45, u 46, u 47, u 48, u 49, u 50, u 51, u 52, u 53, u 54, u 55, u 56, u 57, u 58, u 59, u 60, u 61, u 62, u 63, u 64, u 65, u 66, u 67, u 68, u 69, u 70, u 71, u 72, u 73, u 74, u 75, u 76, u 77, u 78, u 79, u 80, u 81, u 82, u 83, u 84, u 85, u 86, u 87, u 88, u 89, u 90, u 91, u 92, u 93, u 94, u 95, u 96, u 97, u 98, u 99, u 100, u 101, u 102, u 103, u 104, u 105, u 106, u 107, u 108, u 109, u 110, u 111, u 112, u 113, u 114, u 115, u 116, u 117, u 118, u 119, u 120, u 121, u 122, u 123, u 124, u 125, u 126, u 127, u 128, u 129, u 130, u 131, u 132, u 133, u 134, u 135]
theorem ru_frame {t : Array Value} {a : Option Addr} {len cap rb pb k : Nat} (hs : t.size = 136) (h0 : t[0]? = some (Value.slice a len cap)) (h2 : t[2]? = some (Value.pointer (some ⟨rb, 0, none⟩))) (h3 : t[3]? = some (Value.pointer (some ⟨pb, 0, none⟩))) (h25 : t[25]? = some (Value.int .i64 len)) (h26 : t[26]? = some (Value.int .i64 k)) :
    ∃ u, t = (ruF u a len cap rb pb k).toArray := by
  refine ⟨fun i => t.getD i undef, ?_⟩
  have hu : ∀ i v, t[i]? = some v → t.getD i undef = v := fun i v h => by
    obtain ⟨hl, rfl⟩ := Array.getElem?_eq_some_iff.1 h
    simp [Array.getD, hl]
  have e : t = ((List.range 136).map fun i => t.getD i undef).toArray := by
    apply Array.ext
    · simp [hs]
    · intro i h1 h2
      simp [Array.getD, h1]
  refine e.trans ?_
  congr 1
  obtain ⟨u, hu2⟩ : ∃ u : Nat → Value, u = fun i => t.getD i undef := ⟨_, rfl⟩
  rw [← hu2]
  unfold ruF
  rw [← (show u 0 = .slice a len cap by rw [hu2]; exact hu 0 _ h0)]
  rw [← (show u 2 = .pointer (some ⟨rb, 0, none⟩) by rw [hu2]; exact hu 2 _ h2)]
  rw [← (show u 3 = .pointer (some ⟨pb, 0, none⟩) by rw [hu2]; exact hu 3 _ h3)]
  rw [← (show u 25 = .int .i64 len by rw [hu2]; exact hu 25 _ h25)]
  rw [← (show u 26 = .int .i64 k by rw [hu2]; exact hu 26 _ h26)]
  rfl
end Go.Proofs.Ythnkbipdlepbaaa
