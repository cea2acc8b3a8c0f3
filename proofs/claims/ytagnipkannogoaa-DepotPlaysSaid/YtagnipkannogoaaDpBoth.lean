/-
  depot's law: the landed depot beside the document's, and rows of the law's own.
-/
import Derived.Test.YtagnipkannogoaaDpDrain
import Derived.Test.YtagnipkannogoaaDpRAllB
import Derived.Test.YtagnipkannogoaaDpOps
namespace Go.Proofs.Ytagnipkannogoaa
open Go.RowKit Go
section
variable {w0 w w' : World} {X Y : Thg} {r N k : Nat} {F : List Obs} {Q A : Obs} {l l2 : List Rw} {u v vF vQ : Value} {G : List (Value × Obs)} {a b : Rw}
theorem dRows_perm (h : l.Perm l2) : (dRows r N vF vQ G Q l).Perm (dRows r N vF vQ G Q l2) := by
  unfold dRows
  exact (((h.append_left _).cons _).cons _).cons _
theorem RD.perm (h : RD w0 X r N F Q l w) (hp : l.Perm l2) : RD w0 X r N F Q l2 w := by
  obtain ⟨vF, vQ, G, e, h⟩ := h
  exact ⟨vF, vQ, G, e, h.perm (dRows_perm hp)⟩
theorem dRows_out : (a :: dRows r N vF vQ G Q l).Perm (dRows r N vF vQ G Q (a :: l)) := by
  unfold dRows
  exact perm_out
theorem RD.turn (h : RD w0 X r N F Q l w) (ht : TTurn w X w' Y) : RD w0 Y r N F Q l w' := by
  obtain ⟨vF, vQ, G, e, h⟩ := h
  exact ⟨vF, vQ, G, e, h.turn ht⟩
theorem RD.told (h : RD w0 X r N F Q l w) (ht : TTurn w X w' Y) (hr : RwAt w' a) (hn : ∀ k, a.v.ownBlock = some k → (X.has k ∨ w.heap.size ≤ k) ∧ ¬ Y.has k) : RD w0 Y r N F Q (a :: l) w' := by
  obtain ⟨vF, vQ, G, e, h⟩ := h
  exact ⟨vF, vQ, G, e, (h.told ht hr hn).perm dRows_out⟩
theorem RD.fresh (h : RD w0 X r N F Q l w) (hb : Below w.heap.size w w') (hr : RwAt w' a) (hf : ∀ k, a.v.ownBlock = some k → w.heap.size ≤ k) : RD w0 X r N F Q (a :: l) w' := by
  obtain ⟨vF, vQ, G, e, h⟩ := h
  exact ⟨vF, vQ, G, e, (h.fresh hb hr hf).perm dRows_out⟩
theorem RD.drop (h : RD w0 X r N F Q (a :: l) w) : RD w0 X r N F Q l w := by
  obtain ⟨vF, vQ, G, e, h⟩ := h
  exact ⟨vF, vQ, G, e, (h.perm dRows_out.symm).drop⟩
theorem RD.row (h : RD w0 X r N F Q l w) (hm : a ∈ l) : RwAt w a := by
  obtain ⟨vF, vQ, G, e, h⟩ := h
  exact h.row a (by unfold dRows; simp [hm])
theorem RD.at' (h : RD w0 X r N F Q l w) : X.At w := by
  obtain ⟨vF, vQ, G, e, h⟩ := h
  exact h.at'
theorem RD.c0 (h : RD w0 X r N F Q l w) : w.cell? ⟨r, 0, none⟩ = some (.int .i64 N) := by
  obtain ⟨vF, vQ, G, e, h⟩ := h
  exact FK.cell h (j := 0) rfl
theorem RD.c1 (h : RD w0 X r N F Q l w) : ∃ a c, w.cell? ⟨r, 1, none⟩ = some (.slice a F.length c) := by
  obtain ⟨vF, vQ, G, e, h⟩ := h
  obtain ⟨aF, cF, eF⟩ := FK.lenS h.swap
  have hGl : (G.map Prod.fst).length = F.length := by rw [← e, List.length_map, List.length_map]
  rw [hGl] at eF
  exact ⟨aF, cF, by rw [FK.cell h (j := 1) rfl, eF]⟩
theorem RD.c2 (h : RD w0 X r N F Q l w) : ∃ a c, w.cell? ⟨r, 2, none⟩ = some (.slice a Q.length c) := by
  obtain ⟨vF, vQ, G, e, h⟩ := h
  obtain ⟨aQ, cQ, eQ⟩ := FK.lenO h.third
  exact ⟨aQ, cQ, by rw [FK.cell h (j := 2) rfl, eQ]⟩
theorem RD.fz (h : RD w0 X r N F Q l w) {j : Nat} (hj : j < 3) : w.frozen? ⟨r, j, none⟩ = false := by
  obtain ⟨vF, vQ, G, e, h⟩ := h
  rcases (show j = 0 ∨ j = 1 ∨ j = 2 by omega) with rfl | rfl | rfl
  · exact FK.frz h (j := 0) rfl
  · exact FK.frz h (j := 1) rfl
  · exact FK.frz h (j := 2) rfl
theorem FK.sub (h : FK w0 X l w) (hs : l2.Sublist l) : FK w0 X l2 w :=
  ⟨h.at', h.bel, h.lo, fun r hr => h.row r (hs.subset hr), h.off.sublist hs, fun r hr => h.own r (hs.subset hr)⟩
/-- Both lists are gone. -/
theorem RD.none2 (h : RD w0 X r N F Q l w) : RD w0 X r N [] [] l ((w.setCell ⟨r, 1, none⟩ (.slice none 0 0)).setCell ⟨r, 2, none⟩ (.slice none 0 0)) := by
  obtain ⟨vF, vQ, G, e, h⟩ := h
  have h2 := FK.put (FK.put h 1 (.slice none 0 0)) 2 (.slice none 0 0)
  have h3 := h2.sub (l2 := rC r 32 [.int .i64 N, .slice none 0 0, .slice none 0 0] :: l) (((List.sublist_append_right _ _).cons _).cons _ |>.cons_cons _)
  have h4 := h3.nilS.swap
  have h5 := h4.nilO
  exact ⟨.slice none 0 0, .slice none 0 0, [], rfl, h5.perm ((List.Perm.swap _ _ _).trans ((List.Perm.swap _ _ _).cons _))⟩
/-- The queue has grown. -/
theorem FK.que {w2 : World} {v2 : Value} {Q' : Obs} (e : G.map Prod.snd = F) (h : FK w0 X (dRows r N vF vQ G Q l) w) (ho : Only (fun k => vQ.ownBlock = some k) w w2) (hr : w2.ownsRow 0 TO 2 v2 Q'.length (recV encO Q')) (hwh : v2.ownBlock = vQ.ownBlock ∨ ∀ k, v2.ownBlock = some k → w.heap.size ≤ k) :
    RD w0 X r N F Q' l (w2.setCell ⟨r, 2, none⟩ v2) ∧ w2.cell? ⟨r, 2, none⟩ = some vQ ∧ w2.frozen? ⟨r, 2, none⟩ = false := by
  have h3 := (h.third.grow (r' := rO v2 Q') ho hr hwh).unthird
  exact ⟨⟨vF, v2, G, e, FK.put h3 2 v2⟩, FK.cell h3 (j := 2) rfl, FK.frz h3 (j := 2) rfl⟩
/-- A cell of a row of objects is written. -/
theorem FK.setO (h : FK w0 X (rO v A :: l) w) {i s : Nat} (hi : i < A.length) (hs : s < 2) : ∃ g c z, v = .slice (some ⟨g, 0, none⟩) A.length c ∧ w.cell? ⟨g, i * 2 + s, none⟩ = some (.int .i64 z) ∧ w.frozen? ⟨g, i * 2 + s, none⟩ = false ∧
    ∀ z' : Int, ∃ A' : Obs, A'.length = A.length ∧ FK w0 X (rO v A' :: l) (w.setCell ⟨g, i * 2 + s, none⟩ (.int .i64 z')) := by
  have hown : w.ownsRow 0 TO 2 v A.length (recV encO A) := h.row _ List.mem_cons_self
  obtain ⟨g, c, e, hob, _, _, c0, c1⟩ := owns_get hown i hi
  have hown2 := hown
  obtain ⟨hl, ⟨_, e0⟩ | ⟨g2, cap, cur, e2, _, hg, h1, h2, h3, h4⟩⟩ := hown
  · omega
  rw [e] at e2
  injection e2 with e3 _ e4
  injection e3 with e3
  injection e3 with e3
  subst e3
  subst e4
  have hset : ∀ (J : Obs) (i : Nat) (hi : i < J.length) (z' : Int), ∃ J' : Obs, J'.length = J.length ∧ (recV encO J).set (i * 2 + s) (.int .i64 z') = recV encO J' := by
    intro J
    induction J with
    | nil => intro i hi; exact absurd hi (Nat.not_lt_zero _)
    | cons x t ih =>
      intro i hi z'
      obtain ⟨x1, x2⟩ := x
      cases i with
      | zero =>
        rcases (show s = 0 ∨ s = 1 by omega) with rfl | rfl
        · exact ⟨(z', x2) :: t, rfl, by simp [recV, encO]⟩
        · exact ⟨(x1, z') :: t, rfl, by simp [recV, encO]⟩
      | succ i =>
        obtain ⟨J', hJ, hJ2⟩ := ih i (by simpa using hi) z'
        refine ⟨(x1, x2) :: J', by simp [hJ], ?_⟩
        rw [show (i + 1) * 2 + s = (i * 2 + s) + 2 by omega]
        simp [recV, encO, hJ2]
  refine ⟨g, c, if s = 0 then A[i].1 else A[i].2, e, ?_, by simp [World.frozen?, hg], fun z' => ?_⟩
  · rcases (show s = 0 ∨ s = 1 by omega) with rfl | rfl
    · exact c0
    · exact c1
  · obtain ⟨J', hJ, hJ2⟩ := hset A i hi z'
    refine ⟨J', hJ, h.grow ((Only.setCell (S := fun k => k = g) w ⟨g, i * 2 + s, none⟩ rfl _).mono (fun k hk => by rw [hk]; exact hob)) ?_ (.inl rfl)⟩
    show World.ownsRow _ 0 TO 2 v J'.length (recV encO J')
    rw [hJ, e]
    refine ⟨by rw [recV_len encO_len, hJ], .inr ⟨g, c, cur.setIfInBounds (i * 2 + s) (.int .i64 z'), rfl, Nat.zero_le _, by simp [World.setCell, Array.getElem?_modify, hg], h1, h2, by simpa using h3, ?_⟩⟩
    rw [Array.toList_setIfInBounds, List.take_set, h4]
    exact hJ2
end
/-- Both depots, beside rows of the law's own. -/
def PB (w0 : World) (d r N : Nat) (F : List Obs) (Q : Obs) (F2 : List Obs) (Q2 : Obs) (l : List Rw) (w : World) : Prop := ∃ X, IsD X d N F Q ∧ RD w0 X r N F2 Q2 l w
section
variable {w0 w w' : World} {d r N k : Nat} {F F2 : List Obs} {Q Q2 A m : Obs} {l l2 : List Rw} {u v : Value} {a b : Rw}
theorem PB.bel (h : PB w0 d r N F Q F2 Q2 l w) : Below w0.heap.size w0 w := by
  obtain ⟨X, _, h⟩ := h
  exact h.bel
theorem PB.le (h : PB w0 d r N F Q F2 Q2 l w) : w0.heap.size ≤ w.heap.size := h.bel.size
theorem PB.inv (h : PB w0 d r N F Q F2 Q2 l w) : 1 ≤ N ∧ N ≤ 32 ∧ F.length ≤ 64 ∧ ∀ m ∈ F, m.length = N := by
  obtain ⟨X, hX, _⟩ := h
  exact dep_ok.inv hX
theorem PB.later (h : PB w0 d r N F Q F2 Q2 l w) (hb : Below w.heap.size w w') : PB w0 d r N F Q F2 Q2 l w' := by
  obtain ⟨X, hX, h⟩ := h
  exact ⟨X, hX, h.later hb⟩
theorem PB.perm (h : PB w0 d r N F Q F2 Q2 l w) (hp : l.Perm l2) : PB w0 d r N F Q F2 Q2 l2 w := by
  obtain ⟨X, hX, h⟩ := h
  exact ⟨X, hX, h.perm hp⟩
theorem PB.swap (h : PB w0 d r N F Q F2 Q2 (a :: b :: l) w) : PB w0 d r N F Q F2 Q2 (b :: a :: l) w := h.perm (List.Perm.swap _ _ _)
theorem PB.drop (h : PB w0 d r N F Q F2 Q2 (a :: l) w) : PB w0 d r N F Q F2 Q2 l w := by
  obtain ⟨X, hX, h⟩ := h
  exact ⟨X, hX, h.drop⟩
theorem PB.row (h : PB w0 d r N F Q F2 Q2 l w) (hm : a ∈ l) : RwAt w a := by
  obtain ⟨X, hX, h⟩ := h
  exact h.row hm
theorem PB.src (h : PB w0 d r N F Q F2 Q2 l w) (hm : rO v A ∈ l) : SrcO w v A := SrcO.of_owns (h.row hm)
theorem PB.len (h : PB w0 d r N F Q F2 Q2 l w) (hm : rO v A ∈ l) : ∃ a c, v = .slice a A.length c := owns_lenS (h.row hm)
theorem PB.fresh (h : PB w0 d r N F Q F2 Q2 l w) (hb : Below w.heap.size w w') (hr : RwAt w' a) (hf : ∀ k, a.v.ownBlock = some k → w.heap.size ≤ k) : PB w0 d r N F Q F2 Q2 (a :: l) w' := by
  obtain ⟨X, hX, h⟩ := h
  exact ⟨X, hX, h.fresh hb hr hf⟩
theorem PB.nilO (h : PB w0 d r N F Q F2 Q2 l w) : PB w0 d r N F Q F2 Q2 (rO (.slice none 0 0) [] :: l) w := h.fresh (Below.refl _ _) (World.ownsRow_nil _ _ _ _) (fun k hk => by cases hk)
theorem PB.c0 (h : PB w0 d r N F Q F2 Q2 l w) : w.cell? ⟨r, 0, none⟩ = some (.int .i64 N) := by
  obtain ⟨X, hX, h⟩ := h
  exact h.c0
theorem PB.c1 (h : PB w0 d r N F Q F2 Q2 l w) : ∃ a c, w.cell? ⟨r, 1, none⟩ = some (.slice a F2.length c) := by
  obtain ⟨X, hX, h⟩ := h
  exact h.c1
theorem PB.c2 (h : PB w0 d r N F Q F2 Q2 l w) : ∃ a c, w.cell? ⟨r, 2, none⟩ = some (.slice a Q2.length c) := by
  obtain ⟨X, hX, h⟩ := h
  exact h.c2
theorem PB.fz (h : PB w0 d r N F Q F2 Q2 l w) {j : Nat} (hj : j < 3) : w.frozen? ⟨r, j, none⟩ = false := by
  obtain ⟨X, hX, h⟩ := h
  exact h.fz hj
theorem PB.none2 (h : PB w0 d r N F Q F2 Q2 l w) : PB w0 d r N F Q [] [] l ((w.setCell ⟨r, 1, none⟩ (.slice none 0 0)).setCell ⟨r, 2, none⟩ (.slice none 0 0)) := by
  obtain ⟨X, hX, h⟩ := h
  exact ⟨X, hX, h.none2⟩
/-- A cell of the first row is written. -/
theorem PB.setO (h : PB w0 d r N F Q F2 Q2 (rO v A :: l) w) {i s : Nat} (hi : i < A.length) (hs : s < 2) : ∃ g c z, v = .slice (some ⟨g, 0, none⟩) A.length c ∧ w.cell? ⟨g, i * 2 + s, none⟩ = some (.int .i64 z) ∧ w.frozen? ⟨g, i * 2 + s, none⟩ = false ∧
    ∀ z' : Int, ∃ A' : Obs, A'.length = A.length ∧ PB w0 d r N F Q F2 Q2 (rO v A' :: l) (w.setCell ⟨g, i * 2 + s, none⟩ (.int .i64 z')) := by
  obtain ⟨X, hX, vF, vQ, G, e, h⟩ := h
  obtain ⟨g, c, z, h1, h2, h3, h4⟩ := (h.perm dRows_out.symm).setO hi hs
  refine ⟨g, c, z, h1, h2, h3, fun z' => ?_⟩
  obtain ⟨A', h5, h6⟩ := h4 z'
  exact ⟨A', h5, X, hX, vF, vQ, G, e, h6.perm dRows_out⟩
theorem roundsP (h : PB w0 d r N F Q F2 Q2 l w) : Calls Try.prog 11 #[.pointer (some ⟨d, 0, none⟩)] w fun e w' => e = .returned (.int .i64 N) ∧ Below w.heap.size w w' := by
  obtain ⟨X, hX, h⟩ := h
  exact dep_ok.rounds hX h.at'
theorem fullsP (h : PB w0 d r N F Q F2 Q2 l w) : Calls Try.prog 23 #[.pointer (some ⟨d, 0, none⟩)] w fun e w' => e = .returned (.int .i64 F.length) ∧ Below w.heap.size w w' := by
  obtain ⟨X, hX, h⟩ := h
  exact dep_ok.fulls hX h.at'
theorem queuedP (h : PB w0 d r N F Q F2 Q2 l w) : Calls Try.prog 24 #[.pointer (some ⟨d, 0, none⟩)] w fun e w' => e = .returned (.int .i64 Q.length) ∧ Below w.heap.size w w' := by
  obtain ⟨X, hX, h⟩ := h
  exact dep_ok.queued hX h.at'
theorem putP (h : PB w0 d r N F Q F2 Q2 l w) (hs : SrcO w v m) : Calls Try.prog 12 #[.pointer (some ⟨d, 0, none⟩), v] w fun e w' => e = .returned (.int .i64 (dpPut N m F).1) ∧ PB w0 d r N (dpPut N m F).2 Q F2 Q2 l w' := by
  obtain ⟨X, hX, h⟩ := h
  exact (dep_ok.put hX h.at' hs).mono fun _ _ ⟨Y, e, hY, hT⟩ => ⟨e, Y, hY, h.turn hT⟩
theorem putR (h : PB w0 d r N F Q F2 Q2 l w) (hs : SrcO w0 v m) (hm : m.length ≤ 1000) (hF : F2.length ≤ 64) : Calls Try.prog 13 #[.pointer (some ⟨r, 0, none⟩), v] w fun e w' => e = .returned (.int .i64 (dpPut N m F2).1) ∧ PB w0 d r N F Q (dpPut N m F2).2 Q2 l w' := by
  obtain ⟨X, hX, h⟩ := h
  exact (rput_any h hs hm hF).mono fun _ _ ⟨e, h⟩ => ⟨e, X, hX, h⟩
theorem getP (h : PB w0 d r N F Q F2 Q2 l w) : Calls Try.prog 14 #[.pointer (some ⟨d, 0, none⟩)] w fun e w' => ∃ v, e = .returned (.tuple #[v, .bool (dpGet F).1]) ∧ PB w0 d r N (dpGet F).2.2 Q F2 Q2 (rO v (dpGet F).2.1 :: l) w' := by
  obtain ⟨X, hX, h⟩ := h
  refine (dep_ok.get hX h.at').mono ?_
  rintro e w1 ⟨v, Y, rfl, hY, hT, hv, hn⟩
  exact ⟨v, rfl, Y, hY, h.told hT hv hn⟩
theorem getR (h : PB w0 d r N F Q F2 Q2 l w) (hF : F2.length ≤ 64) : Calls Try.prog 15 #[.pointer (some ⟨r, 0, none⟩)] w fun e w' => ∃ v, e = .returned (.tuple #[v, .bool (dpGet F2).1]) ∧ PB w0 d r N F Q (dpGet F2).2.2 Q2 (rO v (dpGet F2).2.1 :: l) w' := by
  obtain ⟨X, hX, h⟩ := h
  rcases List.eq_nil_or_concat F2 with rfl | ⟨F3, m, rfl⟩
  · refine (rget_no h).mono ?_
    rintro e w1 ⟨rfl, rfl⟩
    exact ⟨_, rfl, X, hX, h.fresh (Below.refl _ _) (World.ownsRow_nil _ _ _ _) (fun k hk => by cases hk)⟩
  · rw [List.concat_eq_append] at h hF ⊢
    rw [dpGet_snoc]
    rw [List.length_append] at hF
    refine (rget_any h (by omega)).mono ?_
    rintro e w1 ⟨v, rfl, h⟩
    exact ⟨v, rfl, X, hX, h⟩
theorem queueP (h : PB w0 d r N F Q F2 Q2 l w) (x y : Int) (hq : Q.length ≤ 10000) : Calls Try.prog 16 #[.pointer (some ⟨d, 0, none⟩), .agg #[.int .i64 x, .int .i64 y]] w fun e w' => e = .returned (.tuple #[]) ∧ PB w0 d r N F (Q ++ [(x, y)]) F2 Q2 l w' := by
  obtain ⟨X, hX, h⟩ := h
  refine (dep_ok.queue x y hX h.at' hq).mono ?_
  rintro e w1 ⟨Y, rfl, hY, hT⟩
  exact ⟨rfl, Y, hY, h.turn hT⟩
theorem drainP (h : PB w0 d r N F Q F2 Q2 l w) (n : Int) (hq : Q.length ≤ 10000) : Calls Try.prog 17 #[.pointer (some ⟨d, 0, none⟩), .int .i64 n] w fun e w' => ∃ v, e = .returned v ∧ PB w0 d r N F (Q.drop (dpK n Q)) F2 Q2 (rO v (Q.take (dpK n Q)) :: l) w' := by
  obtain ⟨X, hX, h⟩ := h
  refine (dep_ok.drain n hX h.at' hq).mono ?_
  rintro e w1 ⟨v, Y, rfl, hY, hT, hv, hn⟩
  exact ⟨v, rfl, Y, hY, h.told hT hv hn⟩
theorem drainR (h : PB w0 d r N F Q F2 Q2 l w) (n : Int) (hq : Q2.length ≤ 10000) : Calls Try.prog 18 #[.pointer (some ⟨r, 0, none⟩), .int .i64 n] w fun e w' => ∃ v, e = .returned v ∧ PB w0 d r N F Q F2 (Q2.drop (dpK n Q2)) (rO v (Q2.take (dpK n Q2)) :: l) w' := by
  obtain ⟨X, hX, h⟩ := h
  exact (rdrain_any n h hq).mono fun _ _ ⟨v, e, h⟩ => ⟨v, e, X, hX, h⟩
theorem flushP (h : PB w0 d r N F Q F2 Q2 l w) (hq : Q.length ≤ 10000) : Calls Try.prog 19 #[.pointer (some ⟨d, 0, none⟩)] w fun e w' => ∃ v, e = .returned v ∧ PB w0 d r N [] [] F2 Q2 (rO v (dpAll F Q) :: l) w' := by
  obtain ⟨X, hX, h⟩ := h
  refine (dep_ok.flush hX h.at' hq).mono ?_
  rintro e w1 ⟨v, Y, rfl, hY, hT, hv, hn⟩
  exact ⟨v, rfl, Y, hY, h.told hT hv hn⟩
theorem allP (h : PB w0 d r N F Q F2 Q2 l w) (hq : Q.length ≤ 10000) : Calls Try.prog 21 #[.pointer (some ⟨d, 0, none⟩)] w fun e w' => ∃ v, e = .returned v ∧ PB w0 d r N F Q F2 Q2 (rO v (dpAll F Q) :: l) w' := by
  obtain ⟨X, hX, h⟩ := h
  refine (dep_ok.all hX h.at' hq).mono ?_
  rintro e w1 ⟨v, rfl, hv, hb⟩
  exact ⟨v, rfl, X, hX, h.fresh hb (owns_base hv (fun _ _ => Nat.zero_le _)) (fun k hk => (hv.lt k hk).1)⟩
theorem allR (h : PB w0 d r N F Q F2 Q2 l w) (hb : (dpAll F2 Q2).length ≤ 10000) (hF : F2.length ≤ 1000) : Calls Try.prog 20 #[.pointer (some ⟨r, 0, none⟩)] w fun e w' => ∃ v, e = .returned v ∧ PB w0 d r N F Q F2 Q2 (rO v (dpAll F2 Q2) :: l) w' ∧ Below w.heap.size w w' := by
  obtain ⟨X, hX, h⟩ := h
  exact (rall_bel h hb hF).mono fun _ _ ⟨v, e, h, hb⟩ => ⟨v, e, ⟨X, hX, h⟩, hb⟩
/-- Both made. -/
theorem newP (n : Int) (w : World) : Calls Try.prog 9 #[.int .i64 n] w fun e w' => ∃ d X, e = .returned (.pointer (some ⟨d, 0, none⟩)) ∧ IsD X d (clN n) [] [] ∧ FK w X [] w' := by
  refine (dep_ok.new n w).mono ?_
  rintro e w1 ⟨d, Y, rfl, hY, hT⟩
  exact ⟨d, Y, rfl, hY, hT.at', ⟨hT.only.os, hT.only.tape, hT.only.output, hT.only.size, fun k hk => hT.only.block k hk (fun h => h)⟩, fun k hk => (hT.new k hk).elim (fun h => h.elim) id, fun r hr => absurd hr List.not_mem_nil, List.Pairwise.nil, fun r hr => absurd hr List.not_mem_nil⟩
end
set_option maxRecDepth 100000 in
set_option maxHeartbeats 8000000 in
/-- Two lists that are alike, great ones too. -/
theorem same_big {w : World} {u v : Value} {A : Obs} (hu : SrcO w u A) (hv : SrcO w v A) (hn : A.length ≤ 100000) : Calls Try.prog 22 #[u, v] w fun e w' => e = .returned (.bool true) ∧ Below w.heap.size w w' := by
  have HU := Lib.hid hu
  have HV := Lib.hid hv
  obtain ⟨ua, uc, rfl, _⟩ := hu
  obtain ⟨va, vc, rfl, _⟩ := hv
  have HB0 := Lib.hid (Below.refl w.heap.size w)
  go_enter Try.func22, Try.ntmps22
  go_wp2_with (fail)
  go_loopw [5] (fun i wr => ∃ k : Nat, k ≤ A.length ∧ i = .int .i64 k ∧ Hid (Below w.heap.size w wr)) (fun i _ => A.length - (intOf i).toNat)
  case atStart => exact ⟨0, Nat.zero_le _, rfl, HB0⟩
  case round =>
    clear HB0
    obtain ⟨k, hk, rfl, HB⟩ := hrel
    by_cases hlt : k < A.length
    · have hltI : (k : Int) < (A.length : Int) := by omega
      have hgu := (HU.out.later HB.out).get hlt
      have hgv := (HV.out.later HB.out).get hlt
      obtain ⟨b1, o1, q1, e1, c0, c1⟩ := hgu
      obtain ⟨b2, o2, q2, e2, d0, d1⟩ := hgv
      injection e1 with e1 _ e3
      injection e2 with e2 _ e4
      subst e1
      subst e2
      subst e3
      subst e4
      have HLT := Lib.hid hlt
      generalize A[k] = q at *
      obtain ⟨x, y⟩ := q
      dsimp only at c0 c1 d0 d1
      clear hlt
      go_wp2_with (fail)
      go_quiet (fail)
      go_wp2_with (fail)
      go_roundw
      case rel => exact ⟨k + 1, HLT.out, by go_num, Lib.hid (HB.out.trans ((below_drewN (Below.refl _ _) _).mono HB.out.size))⟩
      case measure => simp [intOf]; omega
    · obtain rfl : k = A.length := by omega
      go_wp2_with (fail)
      go_ret
      exact ⟨rfl, HB.out⟩
end Go.Proofs.Ytagnipkannogoaa
