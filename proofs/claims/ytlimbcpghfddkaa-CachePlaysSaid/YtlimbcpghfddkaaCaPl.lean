/-
  CachePlays: both caches side by side, and the bytes that were handed in.
-/
import Derived.Test.YtlimbcpghfddkaaCaKnown
import Derived.Test.YtlimbcpghfddkaaCaRefT
import Derived.Test.YtlimbcpghfddkaaCaRefD
import Derived.Test.YtlimbcpghfddkaaCaRefA
namespace Go.Proofs.Ytlimbcpghfddkaa
open Go.RowKit Go Go.Maps

/-- The bytes of a call: the program's, the document's. -/
structure Rc where
  a : Nat
  b : Nat
  n : Nat
def rcA (r : Rc) : Value := .slice (some ⟨r.a, 0, none⟩) r.n r.n
def rcB (r : Rc) : Value := .slice (some ⟨r.b, 0, none⟩) r.n r.n
/-- They are a slab's. -/
def Rc.live (K : KC) (D : DC) (A : Ca) (r : Rc) : Prop := r.n = 256 ∧ ∃ x S, findL A.L x = some S ∧ (K.g x).b = r.a ∧ (D.g x).b = r.b
/-- They are no slab's, and alike. -/
structure Rc.Dead (K : KC) (D : DC) (A : Ca) (W : World) (r : Rc) : Prop where
  off : ∀ k, (k = r.a ∨ k = r.b) → ¬ K.all A.L k ∧ ¬ D.all A.L k
  row : ∃ f, RowAt W r.a r.n (byV f) ∧ RowAt W r.b r.n (byV f)
structure PlC (B : Nat) (w : World) (K : KC) (D : DC) (A : Ca) (u v : Value) (Ru Rv R : List Rc) (W : World) : Prop where
  k : KAt B w K A W
  d : DAt W D A
  low : ∀ k, D.all A.L k → B ≤ k
  ap : ∀ k, K.all A.L k → ¬ D.all A.L k
  ou : W.ownsRow B 34 1 u Ru.length (Ru.map rcA)
  ov : W.ownsRow B 34 1 v Rv.length (Rv.map rcB)
  uv : ∀ k, u.ownBlock = some k → v.ownBlock ≠ some k
  off : ∀ k, (u.ownBlock = some k ∨ v.ownBlock = some k) → ¬ K.all A.L k ∧ ¬ D.all A.L k ∧ ∀ r ∈ R, k ≠ r.a ∧ k ≠ r.b
  rc : ∀ r ∈ R, r.live K D A ∨ r.Dead K D A W
  len : A.L.length ≤ R.length
section
variable {B : Nat} {w W W' W1 W2 : World} {K K' : KC} {D D' : DC} {A A' : Ca} {u v u' : Value} {Ru Rv R : List Rc} {r : Rc} {x : Int} {S : Sl}
theorem Rc.Dead.lt (H : r.Dead K D A W) : r.a < W.heap.size ∧ r.b < W.heap.size := by
  obtain ⟨f, h1, h2⟩ := H.row
  exact ⟨h1.lt, h2.lt⟩
theorem Rc.Dead.only (H : r.Dead K D A W) {P : Nat → Prop} (ho : Only P W W') (h : ¬ P r.a ∧ ¬ P r.b) (h2 : ∀ k, (k = r.a ∨ k = r.b) → ¬ K'.all A'.L k ∧ ¬ D'.all A'.L k) : r.Dead K' D' A' W' := by
  obtain ⟨f, h3, h4⟩ := H.row
  exact ⟨h2, f, h3.only ho h.1, h4.only ho h.2⟩
theorem SC.all_b (C : SC) : C.all C.b := .inr rfl
theorem SD.all_b (C : SD) : C.all C.b := .inr (.inl rfl)
theorem Rc.live.lies (h : r.live K D A) : K.all A.L r.a ∧ D.all A.L r.b := by
  obtain ⟨_, x, S, hf, e1, e2⟩ := h
  have hm := findL_mem hf
  exact ⟨.inr ⟨_, hm, by rw [← e1]; exact SC.all_b _⟩, .inr ⟨_, hm, by rw [← e2]; exact SD.all_b _⟩⟩
theorem Rc.live.keep (h : r.live K D A) (hK : K' = K) (hb : ∀ x, (D'.g x).b = (D.g x).b) (hf : ∀ x S, findL A.L x = some S → ∃ S', findL A'.L x = some S') : r.live K' D' A' := by
  obtain ⟨hn, x, S, h1, e1, e2⟩ := h
  obtain ⟨S', h2⟩ := hf x S h1
  exact ⟨hn, x, S', h2, by rw [hK]; exact e1, by rw [hb]; exact e2⟩
/-- What lies at a record that is a slab's. -/
theorem PlC.rows (H : PlC B w K D A u v Ru Rv R W) (hr : r ∈ R) : ∃ f, RowAt W r.a r.n (byV f) ∧ RowAt W r.b r.n (byV f) := by
  rcases H.rc r hr with ⟨hn, x, S, hf, e1, e2⟩ | h
  · have hm := findL_mem hf
    have h1 := chain_ok.byt (H.k.at_.fam.at_ _ hm)
    have h2 := CRef.byt (H.d.fam.at_ _ hm)
    refine ⟨S.bt, ?_, ?_⟩
    · rw [hn, ← e1]
      exact h1
    · rw [hn, ← e2]
      exact h2
  · exact h.row
theorem PlC.rlt (H : PlC B w K D A u v Ru Rv R W) (hr : r ∈ R) : r.a < W.heap.size ∧ r.b < W.heap.size := by
  obtain ⟨f, h1, h2⟩ := H.rows hr
  exact ⟨h1.lt, h2.lt⟩
theorem PlC.later (H : PlC B w K D A u v Ru Rv R W) (h : Below W.heap.size W W') : PlC B w K D A u v Ru Rv R W' :=
  ⟨H.k.later h, H.d.later h, H.low, H.ap, owns_later H.ou h, owns_later H.ov h, H.uv, H.off, fun r hr => (H.rc r hr).imp id (fun d => d.only (Only.of_below (S := fun _ => False) h) ⟨fun h => h, fun h => h⟩ d.off), H.len⟩
theorem PlC.ends (H : PlC B w K D A u v Ru Rv R W) : Below B w W := H.k.bel
theorem PlC.le (H : PlC B w K D A u v Ru Rv R W) : B ≤ W.heap.size := H.k.le
/-- Behind the program's call the document's still lies. -/
theorem PlC.doc (H : PlC B w K D A u v Ru Rv R W) {Bb : Nat → Prop} {β : Int → Nat} (T : KTurn W K A Bb β K' A' W1) (hB : ∀ k, Bb k → ¬ D.all A.L k) : DAt W1 D A :=
  H.d.only T.only (fun k hk h => h.elim (fun h => H.ap k h hk) (fun h => hB k h hk))
/-- Both have turned. -/
theorem PlC.step (H : PlC B w K D A u v Ru Rv R W) {β γ : Int → Nat} (T : KTurn W K A noB β K' A' W1) (U : DTurn W1 D A noB γ D' A' W2) (hl : A'.L.length ≤ A.L.length) (hrc : ∀ r ∈ R, r.live K D A → r.live K' D' A' ∨ r.Dead K' D' A' W2) : PlC B w K' D' A' u v Ru Rv R W2 := by
  have hs := T.only.size
  have sub : ∀ k, K'.all A'.L k → K.all A.L k := T.sub rfl
  have dsub : ∀ k, D'.all A'.L k → D.all A.L k ∨ W1.heap.size ≤ k := fun k hk => (U.new k hk).elim .inl (fun h => h.elim (fun h => h.elim) .inr)
  have klt := H.k.at_.lt
  have only1 : Only (K.all A.L) W W1 := T.only.mono (fun k hk => hk.elim id (fun h => h.elim))
  have only2 : Only (D.all A.L) W1 W2 := U.only.mono (fun k hk => hk.elim id (fun h => h.elim))
  have out : ∀ k, k < W.heap.size → ¬ K.all A.L k → ¬ D.all A.L k → ¬ K'.all A'.L k ∧ ¬ D'.all A'.L k := fun k h1 h2 h3 => ⟨fun h => h2 (sub k h), fun h => (dsub k h).elim h3 (fun h => by omega)⟩
  refine ⟨(H.k.same T).only only2 (fun k hk h => H.ap k (sub k hk) h) H.low, U.at_, fun k hk => (dsub k hk).elim (H.low k) (fun h => by have := H.k.le; omega), fun k hk h => ?_, ?_, ?_, H.uv, fun k hk => ?_, fun r hr => ?_, Nat.le_trans hl H.len⟩
  · rcases dsub k h with h | h
    · exact H.ap k (sub k hk) h
    · have := klt k (sub k hk)
      omega
  · exact owns_only (owns_only H.ou only1 (fun k hk => (H.off k (.inl hk)).1)) only2 (fun k hk => (H.off k (.inl hk)).2.1)
  · exact owns_only (owns_only H.ov only1 (fun k hk => (H.off k (.inr hk)).1)) only2 (fun k hk => (H.off k (.inr hk)).2.1)
  · obtain ⟨h1, h2, h3⟩ := H.off k hk
    have hlt : k < W.heap.size := hk.elim (fun h => (H.ou.lt k h).2) (fun h => (H.ov.lt k h).2)
    obtain ⟨h4, h5⟩ := out k hlt h1 h2
    exact ⟨h4, h5, h3⟩
  · rcases H.rc r hr with h | h
    · exact hrc r hr h
    · have h1 := h.off r.a (.inl rfl)
      have h2 := h.off r.b (.inr rfl)
      obtain ⟨l1, l2⟩ := h.lt
      right
      refine (h.only (K' := K) (D' := D) (A' := A) only1 ⟨h1.1, h2.1⟩ h.off).only only2 ⟨h1.2, h2.2⟩ (fun k hk => ?_)
      rcases hk with rfl | rfl
      · exact out _ l1 h1.1 h1.2
      · exact out _ l2 h2.1 h2.2
theorem find_turned (hr : Rise A.L) {y : Int} {T : Sl} (h : findL A.L y = some T) : ∃ S', findL (A.turned x S).L y = some S' := by
  show ∃ S', findL (setL A.L x S) y = some S'
  rw [findL_set hr]
  split
  · rename_i e
    rw [← e, h]
    exact ⟨_, rfl⟩
  · exact ⟨_, h⟩
theorem find_take (hr : Rise A.L) {y : Int} {T : Sl} (h : findL A.L y = some T) : ∃ S', findL A.take.2.2.2.L y = some S' := by
  unfold Ca.take
  split
  · exact ⟨_, h⟩
  · exact find_turned hr h
theorem find_give (hr : Rise A.L) {i y : Int} {T : Sl} (h : findL A.L y = some T) : ∃ S', findL (A.give x i).2.L y = some S' := by
  unfold Ca.give
  split
  · exact ⟨_, h⟩
  · exact find_turned hr h
theorem PlC.keeps (H : PlC B w K D A u v Ru Rv R W) (T : KTurn W K A noB (fun x => (K.g x).b) K' A' W1) (U : DTurn W1 D A noB (fun x => (D.g x).b) D' A' W2) (hl : A'.L.length ≤ A.L.length) (hf : ∀ y T, findL A.L y = some T → ∃ S', findL A'.L y = some S') : PlC B w K' D' A' u v Ru Rv R W2 :=
  H.step T U hl (fun _ _ h => .inl (h.keep (T.keep rfl) U.b hf))
theorem PlC.take (H : PlC B w K D A u v Ru Rv R W) (T : KTurn W K A noB (fun x => (K.g x).b) K' A.take.2.2.2 W1) (U : DTurn W1 D A noB (fun x => (D.g x).b) D' A.take.2.2.2 W2) : PlC B w K' D' A.take.2.2.2 u v Ru Rv R W2 :=
  H.keeps T U (Nat.le_of_eq (take_len A)) (fun _ _ h => find_take H.d.inv.rise h)
theorem PlC.give (H : PlC B w K D A u v Ru Rv R W) {i : Int} (T : KTurn W K A noB (fun x => (K.g x).b) K' (A.give x i).2 W1) (U : DTurn W1 D A noB (fun x => (D.g x).b) D' (A.give x i).2 W2) : PlC B w K' D' (A.give x i).2 u v Ru Rv R W2 :=
  H.keeps T U (Nat.le_of_eq (give_len A x i)) (fun _ _ h => find_give H.d.inv.rise h)
/-- A slab's call on both sides. -/
theorem PlC.slab (H : PlC B w K D A u v Ru Rv R W) {T S : Sl} (hf : findL A.L x = some T) (hI : SlI S) (hs : S.sz = T.sz) (h1 : SlAt W1 (K.g x) S) (ho1 : Only (K.g x).all W W1) (h2 : CRef W2 (D.g x).r (D.g x).b (D.g x).bc S (D.g x).v) (ho2 : Only (fun k => k = (D.g x).r) W1 W2) : ∃ D', D'.d = D.d ∧ PlC B w K D' (A.turned x S) u v Ru Rv R W2 := by
  have hm := findL_mem hf
  have T1 := H.k.at_.turn hm h1 ho1 hI hs
  have D1 := H.doc T1 (fun _ h => h.elim)
  have U := D1.turn hm (C := D.g x) h2 rfl rfl (ho2.mono (fun k hk => .inl hk)) (fun k hk => .inl hk) hI hs
  exact ⟨_, U.d, H.keeps T1 U (Nat.le_of_eq (setL_len _ _ _)) (fun _ _ h => find_turned H.d.inv.rise h)⟩
theorem PlC.drop (H : PlC B w K D A u v Ru Rv R W) {q1 q2 : Int} {A' : Ca} (hq : A.drop x = (q1, A')) {e e' : Ending} (hk : KPostD W K A (q1, A') e W1) (hd : DPostD W1 D A x (q2, A') e' W2) (hq2 : q2 = q1) : ∃ K' D', K'.c = K.c ∧ D'.d = D.d ∧ PlC B w K' D' A' u v Ru Rv R W2 := by
  obtain ⟨⟨_, K', T⟩, ho1⟩ := hk
  obtain ⟨_, D', U, hoff, ho2⟩ := hd
  refine ⟨K', D', T.c, U.d, ?_⟩
  have hlen : A'.L.length ≤ A.L.length := by have h := drop_len A x; rw [hq] at h; exact h
  have hKe := T.keep rfl
  subst hKe
  cases hf : findL A.L x with
  | none =>
    have e : A' = A := by unfold Ca.drop at hq; rw [hf] at hq; injection hq with _ h; exact h.symm
    subst e
    exact H.keeps T U hlen (fun _ _ h => ⟨_, h⟩)
  | some S =>
    by_cases hb : S.ch.length = S.n
    · have e : q1 = 0 ∧ A' = A.cutted x := by
        unfold Ca.drop at hq
        rw [hf] at hq
        dsimp only at hq
        rw [if_pos hb] at hq
        injection hq with h1 h2
        exact ⟨h1.symm, h2.symm⟩
      obtain ⟨rfl, rfl⟩ := e
      have hm := findL_mem hf
      have hbk := chain_ok.byt (H.k.at_.fam.at_ _ hm)
      have hbd := CRef.byt (H.d.fam.at_ _ hm)
      have ka : K'.all A.L (K'.g x).b := .inr ⟨_, hm, SC.all_b _⟩
      have da : D.all A.L (D.g x).b := .inr ⟨_, hm, SD.all_b _⟩
      refine H.step T U hlen (fun r hr h => ?_)
      obtain ⟨hn, y, S2, h1, e1, e2⟩ := h
      by_cases hy : y = x
      · subst hy
        right
        refine ⟨fun k hk => ?_, S.bt, ?_, ?_⟩
        · rcases hk with rfl | rfl
          · rw [← e1]
            refine ⟨fun h => ?_, fun h => ?_⟩
            · rcases h with h | ⟨p, hp, h⟩
              · exact H.k.at_.fam.off _ hm _ (SC.all_b _) h
              · exact H.k.at_.fam.dis _ hm p (mem_cutL.1 hp).1 (Ne.symm (mem_cutL.1 hp).2) _ (SC.all_b _) h
            · rcases U.new _ h with h | h | h
              · exact H.ap _ ka h
              · exact h.elim
              · have := H.k.at_.lt _ ka
                have := T.only.size
                omega
          · rw [← e2]
            exact ⟨fun h => H.ap _ (T.sub rfl _ h) da, hoff hq2 S hf⟩
        · rw [hn, ← e1]
          refine (hbk.only ho1 (fun h => ?_)).only ho2 (fun h => ?_)
          · exact H.k.at_.fam.off _ hm _ (SC.all_b _) (.inr h)
          · exact H.ap _ ka (.inl (.inl h))
        · rw [hn, ← e2]
          refine (hbd.only ho1 (fun h => ?_)).only ho2 (fun h => ?_)
          · exact H.ap _ (.inl (.inr h)) da
          · exact H.d.fam.off _ hm _ (SD.all_b _) (.inl h)
      · left
        refine ⟨hn, y, S2, ?_, e1, by rw [U.b]; exact e2⟩
        show findL (cutL A.L x) y = some S2
        rw [findL_cut H.d.inv.rise, if_neg hy]
        exact h1
    · have e : A' = A := by
        unfold Ca.drop at hq
        rw [hf] at hq
        dsimp only at hq
        rw [if_neg hb] at hq
        injection hq with _ h2
        exact h2.symm
      subst e
      exact H.keeps T U hlen (fun _ _ h => ⟨_, h⟩)
/-- New bytes of a call. -/
structure NewR (B : Nat) (K : KC) (D : DC) (A : Ca) (u v : Value) (R : List Rc) (W : World) (f : Nat → UInt8) (r : Rc) : Prop where
  ra : RowAt W r.a r.n (byV f)
  rb : RowAt W r.b r.n (byV f)
  ne : r.a ≠ r.b
  off : ∀ k, (k = r.a ∨ k = r.b) → ¬ K.all A.L k ∧ ¬ D.all A.L k ∧ u.ownBlock ≠ some k ∧ v.ownBlock ≠ some k ∧ B ≤ k
  fr : ∀ s ∈ R, s.a ≠ r.a ∧ s.a ≠ r.b ∧ s.b ≠ r.a ∧ s.b ≠ r.b
theorem NewR.later {f : Nat → UInt8} (N : NewR B K D A u v R W f r) (h : Below W.heap.size W W') : NewR B K D A u v R W' f r := ⟨N.ra.later h, N.rb.later h, N.ne, N.off, N.fr⟩
theorem PlC.fresh (H : PlC B w K D A u v Ru Rv R W) {f : Nat → UInt8} (ra : RowAt W' r.a r.n (byV f)) (rb : RowAt W' r.b r.n (byV f)) (ne : r.a ≠ r.b) (h : ∀ k, (k = r.a ∨ k = r.b) → W.heap.size ≤ k) : NewR B K D A u v R W' f r := by
  refine ⟨ra, rb, ne, fun k hk => ?_, fun s hs => ?_⟩
  have h1 := h k hk
  exact ⟨fun h => by have := H.k.at_.lt k h; omega, fun h => by have := H.d.lt k h; omega, fun h => by have := (H.ou.lt k h).2; omega, fun h => by have := (H.ov.lt k h).2; omega, Nat.le_trans H.k.le h1⟩
  have h1 := h _ (.inl rfl)
  have h2 := h _ (.inr rfl)
  obtain ⟨h3, h4⟩ := H.rlt hs
  omega
theorem PlC.addNo (H : PlC B w K D A u v Ru Rv R W) {f : Nat → UInt8} (N : NewR B K D A u v R W f r) : PlC B w K D A u v Ru Rv (R ++ [r]) W := by
  refine ⟨H.k, H.d, H.low, H.ap, H.ou, H.ov, H.uv, fun k hk => ?_, fun s hs => ?_, by have := H.len; rw [List.length_append]; omega⟩
  · obtain ⟨h1, h2, h3⟩ := H.off k hk
    refine ⟨h1, h2, fun s hs => ?_⟩
    rcases List.mem_append.1 hs with hs | hs
    · exact h3 s hs
    · rw [List.mem_singleton.1 hs]
      refine ⟨fun e => ?_, fun e => ?_⟩
      · have := N.off k (.inl e)
        exact hk.elim this.2.2.1 this.2.2.2.1
      · have := N.off k (.inr e)
        exact hk.elim this.2.2.1 this.2.2.2.1
  · rcases List.mem_append.1 hs with hs | hs
    · exact H.rc s hs
    · rw [List.mem_singleton.1 hs]
      exact .inr ⟨fun k hk => ⟨(N.off k hk).1, (N.off k hk).2.1⟩, f, N.ra, N.rb⟩
theorem PlC.docRow (H : PlC B w K D A u v Ru Rv R W) {f : Nat → UInt8} (N : NewR B K D A u v R W f r) (T : KTurn W K A (fun k => k = r.a) (updI (fun x => (K.g x).b) x r.a) K' A' W1) : DAt W1 D A ∧ RowAt W1 r.b r.n (byV f) ∧ ¬ D.all A.L r.b :=
  ⟨H.doc T (fun k hk => by rw [hk]; exact (N.off _ (.inl rfl)).2.1), N.rb.only T.only (fun h => h.elim (N.off _ (.inr rfl)).1 (fun h => N.ne h.symm)), (N.off _ (.inr rfl)).2.1⟩
theorem PlC.addYes (H : PlC B w K D A u v Ru Rv R W) {f : Nat → UInt8} (N : NewR B K D A u v R W f r) (h256 : r.n = 256) (hn : findL A.L x = none)
    (T : KTurn W K A (fun k => k = r.a) (updI (fun x => (K.g x).b) x r.a) K' (A.added x f) W1) (U : DTurn W1 D A (fun k => k = r.b) (updI (fun x => (D.g x).b) x r.b) D' (A.added x f) W2) : PlC B w K' D' (A.added x f) u v Ru Rv (R ++ [r]) W2 := by
  have hs := T.only.size
  have klt := H.k.at_.lt
  have dlt := H.d.lt
  have alt := N.ra.lt
  have blt := N.rb.lt
  obtain ⟨a1, a2, a3, a4, a5⟩ := N.off _ (.inl rfl)
  obtain ⟨b1, b2, b3, b4, b5⟩ := N.off _ (.inr rfl)
  have kn := T.new
  have dn := U.new
  have k'lt := T.at_.lt
  have out : ∀ k, k < W.heap.size → ¬ K.all A.L k → ¬ D.all A.L k → k ≠ r.a → k ≠ r.b → ¬ K'.all (A.added x f).L k ∧ ¬ D'.all (A.added x f).L k := fun k h1 h2 h3 h4 h5 => by
    refine ⟨fun h => ?_, fun h => ?_⟩
    · rcases kn k h with h | h | h
      · exact h2 h
      · exact h4 h
      · omega
    · rcases dn k h with h | h | h
      · exact h3 h
      · exact h5 h
      · omega
  have hap : ∀ k, K'.all (A.added x f).L k → ¬ D'.all (A.added x f).L k := fun k hk hd => by
    have h0 := k'lt k hk
    rcases dn k hd with h | h | h
    · rcases kn k hk with h2 | h2 | h2
      · exact H.ap k h2 h
      · rw [h2] at h
        exact a2 h
      · have := dlt k h
        omega
    · rcases kn k hk with h2 | h2 | h2
      · rw [h] at h2
        exact b1 h2
      · exact N.ne (h2.symm.trans h)
      · omega
    · omega
  have o1 : ∀ k, (K.all A.L k ∨ k = r.a) → B ≤ k := fun k hk => hk.elim (H.k.low k) (fun h => by rw [h]; exact a5)
  have o2 : ∀ k, (D.all A.L k ∨ k = r.b) → B ≤ k := fun k hk => hk.elim (H.low k) (fun h => by rw [h]; exact b5)
  have hk1 := H.k.turn T (fun k hk => by rw [hk]; exact a5)
  refine ⟨hk1.only U.only (fun k hk h => ?_) o2, U.at_, fun k hk => ?_, hap, ?_, ?_, H.uv, fun k hk => ?_, fun s hs => ?_, ?_⟩
  · rcases h with h | h
    · rcases kn k hk with h2 | h2 | h2
      · exact H.ap k h2 h
      · rw [h2] at h
        exact a2 h
      · have := dlt k h
        omega
    · rcases kn k hk with h2 | h2 | h2
      · rw [h] at h2
        exact b1 h2
      · exact N.ne (h2.symm.trans h)
      · omega
  · rcases dn k hk with h | h | h
    · exact H.low k h
    · rw [h]
      exact b5
    · have := H.k.le
      omega
  · refine owns_only (owns_only H.ou T.only (fun k hk h => ?_)) U.only (fun k hk h => ?_)
    · rcases h with h | h
      · exact (H.off k (.inl hk)).1 h
      · rw [h] at hk
        exact a3 hk
    · rcases h with h | h
      · exact (H.off k (.inl hk)).2.1 h
      · rw [h] at hk
        exact b3 hk
  · refine owns_only (owns_only H.ov T.only (fun k hk h => ?_)) U.only (fun k hk h => ?_)
    · rcases h with h | h
      · exact (H.off k (.inr hk)).1 h
      · rw [h] at hk
        exact a4 hk
    · rcases h with h | h
      · exact (H.off k (.inr hk)).2.1 h
      · rw [h] at hk
        exact b4 hk
  · obtain ⟨h1, h2, h3⟩ := H.off k hk
    have hlt : k < W.heap.size := hk.elim (fun h => (H.ou.lt k h).2) (fun h => (H.ov.lt k h).2)
    have e1 : k ≠ r.a := fun e => by rw [e] at hk; exact hk.elim a3 a4
    have e2 : k ≠ r.b := fun e => by rw [e] at hk; exact hk.elim b3 b4
    obtain ⟨h4, h5⟩ := out k hlt h1 h2 e1 e2
    refine ⟨h4, h5, fun s hs => ?_⟩
    rcases List.mem_append.1 hs with hs | hs
    · exact h3 s hs
    · rw [List.mem_singleton.1 hs]
      exact ⟨e1, e2⟩
  · have hfi : ∀ y S, findL A.L y = some S → y ≠ x ∧ findL (A.added x f).L y = some S := fun y S h => by
      have e : y ≠ x := fun e => by rw [e, hn] at h; cases h
      refine ⟨e, ?_⟩
      show findL (insL A.L ⟨x, Sl.new A.sz A.co f⟩) y = _
      rw [findL_ins H.d.inv.rise (findL_none hn), if_neg e]
      exact h
    rcases List.mem_append.1 hs with hs | hs
    · obtain ⟨f1, f2, f3, f4⟩ := N.fr s hs
      rcases H.rc s hs with ⟨h1, y, S, h2, e1, e2⟩ | h
      · obtain ⟨e, h3⟩ := hfi y S h2
        left
        refine ⟨h1, y, S, h3, ?_, ?_⟩
        · rw [T.b, updI_other _ e]
          exact e1
        · rw [U.b, updI_other _ e]
          exact e2
      · right
        have h1 := h.off s.a (.inl rfl)
        have h2 := h.off s.b (.inr rfl)
        obtain ⟨l1, l2⟩ := h.lt
        refine (h.only (K' := K) (D' := D) (A' := A) T.only ⟨fun h => h.elim h1.1 f1, fun h => h.elim h2.1 f3⟩ h.off).only U.only ⟨fun h => h.elim h1.2 f2, fun h => h.elim h2.2 f4⟩ (fun k hk => ?_)
        rcases hk with rfl | rfl
        · exact out _ l1 h1.1 h1.2 f1 f2
        · exact out _ l2 h2.1 h2.2 f3 f4
    · rw [List.mem_singleton.1 hs]
      left
      refine ⟨h256, x, Sl.new A.sz A.co f, ?_, ?_, ?_⟩
      · show findL (insL A.L ⟨x, Sl.new A.sz A.co f⟩) x = _
        rw [findL_ins H.d.inv.rise (findL_none hn), if_pos rfl]
      · rw [T.b, updI_same]
      · rw [U.b, updI_same]
  · have := H.len
    show (insL A.L ⟨x, Sl.new A.sz A.co f⟩).length ≤ _
    rw [insL_len, List.length_append]
    simpa using this
/-- The bytes told to the law's lists. -/
theorem PlC.appU (H : PlC B w K D A u v Ru Rv R W) (hown : W'.ownsRow B 34 1 u' (Ru.length + 1) (Ru.map rcA ++ [rcA r])) (ho : Only (fun k => u.ownBlock = some k) W W') (hw : u'.ownBlock = u.ownBlock ∨ ∀ k, u'.ownBlock = some k → W.heap.size ≤ k) : PlC B w K D A u' v (Ru ++ [r]) Rv R W' := by
  refine ⟨H.k.only ho (fun k hk h => (H.off k (.inl h)).1 hk) (fun k h => (H.ou.lt k h).1), H.d.only ho (fun k hk h => (H.off k (.inl h)).2.1 hk), H.low, H.ap, by rw [List.length_append, List.map_append]; exact hown, owns_only H.ov ho (fun k hk h => H.uv k h hk), fun k hk => ?_, fun k hk => ?_, fun s hs => ?_, H.len⟩
  · rcases hw with e | e
    · rw [e] at hk
      exact H.uv k hk
    · intro h
      have := (H.ov.lt k h).2
      have := e k hk
      omega
  · rcases hk with hk | hk
    · rcases hw with e | e
      · rw [e] at hk
        exact H.off k (.inl hk)
      · have h1 := e k hk
        exact ⟨fun h => by have := H.k.at_.lt k h; omega, fun h => by have := H.d.lt k h; omega, fun s hs => by have := H.rlt hs; omega⟩
    · exact H.off k (.inr hk)
  · rcases H.rc s hs with h | h
    · exact .inl h
    · exact .inr (h.only ho ⟨fun e => ((H.off _ (.inl e)).2.2 s hs).1 rfl, fun e => ((H.off _ (.inl e)).2.2 s hs).2 rfl⟩ h.off)
theorem PlC.appV (H : PlC B w K D A u v Ru Rv R W) (hown : W'.ownsRow B 34 1 u' (Rv.length + 1) (Rv.map rcB ++ [rcB r])) (ho : Only (fun k => v.ownBlock = some k) W W') (hw : u'.ownBlock = v.ownBlock ∨ ∀ k, u'.ownBlock = some k → W.heap.size ≤ k) : PlC B w K D A u u' Ru (Rv ++ [r]) R W' := by
  refine ⟨H.k.only ho (fun k hk h => (H.off k (.inr h)).1 hk) (fun k h => (H.ov.lt k h).1), H.d.only ho (fun k hk h => (H.off k (.inr h)).2.1 hk), H.low, H.ap, owns_only H.ou ho (fun k hk h => H.uv k hk h), by rw [List.length_append, List.map_append]; exact hown, fun k hk => ?_, fun k hk => ?_, fun s hs => ?_, H.len⟩
  · rcases hw with e | e
    · rw [e]
      exact H.uv k hk
    · intro h
      have := (H.ou.lt k hk).2
      have := e k h
      omega
  · rcases hk with hk | hk
    · exact H.off k (.inl hk)
    · rcases hw with e | e
      · rw [e] at hk
        exact H.off k (.inr hk)
      · have h1 := e k hk
        exact ⟨fun h => by have := H.k.at_.lt k h; omega, fun h => by have := H.d.lt k h; omega, fun s hs => by have := H.rlt hs; omega⟩
  · rcases H.rc s hs with h | h
    · exact .inl h
    · exact .inr (h.only ho ⟨fun e => ((H.off _ (.inr e)).2.2 s hs).1 rfl, fun e => ((H.off _ (.inr e)).2.2 s hs).2 rfl⟩ h.off)
/-- Both made. -/
theorem PlC.first {sz : Nat} (H : KAt B w K ⟨sz, 0, []⟩ W) (hd : DAt W1 D ⟨sz, 0, []⟩) (hb : Below W.heap.size W W1) (hn : ∀ k, D.all [] k → W.heap.size ≤ k) : PlC B w K D ⟨sz, 0, []⟩ (.slice none 0 0) (.slice none 0 0) [] [] [] W1 := by
  have nil : ∀ W : World, W.ownsRow B 34 1 (.slice none 0 0) 0 [] := fun W => ⟨rfl, .inl ⟨rfl, rfl⟩⟩
  exact ⟨H.later hb, hd, fun k hk => Nat.le_trans H.le (hn k hk), fun k hk h => by have := H.at_.lt k hk; have := hn k h; omega, nil _, nil _, (fun k hk => by cases hk), (fun k hk => hk.elim (fun h => by cases h) (fun h => by cases h)), (fun r hr => absurd hr List.not_mem_nil), Nat.le_refl _⟩
theorem owns_at {base n c : Nat} {T : TypeId} {a : Option Addr} {xs : List Value} (h : W.ownsRow base T 1 (.slice a n c) n xs) {i : Nat} (hi : i < n) : ∃ g, a = some ⟨g, 0, none⟩ ∧ W.cell? ⟨g, i, none⟩ = xs[i]? := by
  obtain ⟨a', c', e, hh⟩ := owns_slice h
  injection e with e1 _ _
  subst e1
  obtain ⟨g, e, _, _, A, t, hA, hx⟩ := hh (by omega)
  exact ⟨g, e, by rw [cell_of_row _ _ _ _ _ _ hA, hx i (by omega)]⟩
end
end Go.Proofs.Ytlimbcpghfddkaa
