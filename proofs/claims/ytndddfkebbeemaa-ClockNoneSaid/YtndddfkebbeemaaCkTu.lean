/-
  clock: the landed turns: an iterator that turns the ring below it.
-/
import Derived.Test.YtndddfkebbeemaaCkAl
import Derived.Test.YtndddfkebbeemaaRangeT
import Derived.Test.YtndddfkebbeemaaLexApp
namespace Go.Proofs.Ytndddfkebbeemaa
open Go.RowKit Go.Shelf Go
attribute [local go_sem] Oper.semAt_some

theorem looks_next {L M : List Fr} {y : Fr} {i : Nat} (h : looks i L = y :: M) : looks (i + 1) L = M ++ [stepF y] := by rw [looks_succ, h]; rfl
theorem names_next {L M : List Fr} {y : Fr} {i : Nat} (h : looks i L = y :: M) : namesL (looks (i + 1) L) = namesL M ++ [y.1] := by
  rw [looks_next h]; simp [namesL]
theorem cellB_some {W : World} {v : Value} {N : List Nat} (h : WinAt W v N) (hp : 0 < N.length) {k : Nat} (hk : v.ownBlock = some k) : ∃ o, W.heap[k]? = some o ∧ o.isCells = true := by
  obtain ⟨g, o, c, rfl, h1, h2, hg, h3, h4⟩ := h.where hp
  simp only [Value.ownBlock, Option.some.injEq] at hk
  subst hk
  exact cells_some (h3 0 (by omega)).1
/-- The iterator's own state: its box, the clock's ring. -/
structure RgV (base b1 p mb : Nat) (v0 : Value) (N : List Nat) (v : Value) (W : World) : Prop where
  box : RowAt W b1 1 (fun _ => .pointer (some ⟨p, 0, none⟩))
  row : RowAt W p 2 (ckV v (some mb))
  win : WinAt W v N
  pv : v.ownBlock ≠ some p
  vm : v.ownBlock ≠ some mb
  vb : v.ownBlock ≠ some b1
  fr : v.ownBlock = v0.ownBlock ∨ ∀ k, v.ownBlock = some k → base ≤ k
  sz : base ≤ W.heap.size
/-- What it turns. -/
abbrev CkTn (base p : Nat) (v0 : Value) (X Y : World) : Prop := Only (fun k => k = p ∨ v0.ownBlock = some k ∨ base ≤ k) X Y
def CkRg (base b1 p mb : Nat) (v0 : Value) (L : List Fr) (i : Nat) (W : World) : Prop := ∃ v, RgV base b1 p mb v0 (namesL (looks i L)) v W
section
variable {base b1 p mb : Nat} {v0 v : Value} {N : List Nat} {W W' W3 : World}
theorem RgV.only {S : Nat → Prop} (h : RgV base b1 p mb v0 N v W) (ho : Only S W W') (h1 : ¬ S b1) (h2 : ¬ S p) (h3 : ∀ k, v.ownBlock = some k → ¬ S k) : RgV base b1 p mb v0 N v W' :=
  ⟨h.box.only ho h1, h.row.only ho h2, h.win.only ho h3, h.pv, h.vm, h.vb, h.fr, Nat.le_trans h.sz ho.size⟩
theorem RgV.later (h : RgV base b1 p mb v0 N v W) (hb : Below W.heap.size W W') : RgV base b1 p mb v0 N v W' := h.only (Only.of_below (S := fun _ => False) hb) (fun h => h) (fun h => h) (fun _ _ h => h)
theorem RgV.grown {row : Option Nat} (h : RgV base b1 p mb v0 N v W) (hp : 0 < N.length) (hg : W.grownBy W' row) (hr : ∀ r, row = some r → ∃ o : Obj, W.heap[r]? = some o ∧ o.isCells = false) : RgV base b1 p mb v0 N v W' := by
  refine ⟨row_grown h.box hg hr, row_grown h.row hg hr, h.win.block2 (fun k hk => hg.block k (h.win.lt hk) (fun e => ?_)), h.pv, h.vm, h.vb, h.fr, Nat.le_trans h.sz hg.size⟩
  obtain ⟨o, ho, hc⟩ := cellB_some h.win hp hk
  obtain ⟨o2, ho2, hc2⟩ := hr k e.symm
  rw [ho] at ho2
  injection ho2 with e2
  rw [e2, hc2] at hc
  cases hc
/-- The ring goes on by one. -/
theorem RgV.turn {x : Nat} {M : List Nat} {v3 tl : Value} {g : Nat} (h : RgV base b1 p mb v0 (x :: M) v W) (hb : Below W.heap.size W W') (hg : v.ownBlock = some g) (ht : tl.ownBlock = some g) (hpb : b1 ≠ p) (hp : p < base) (hmb : mb < base) (hb1 : b1 < base)
    (hw : WinAt W3 v3 (M ++ [x])) (ho : Only (fun k => tl.ownBlock = some k) W' W3) (hv : v3.ownBlock = tl.ownBlock ∨ ∀ k, v3.ownBlock = some k → W'.heap.size ≤ k) :
    RgV base b1 p mb v0 (M ++ [x]) v3 (W3.setCell ⟨p, 0, none⟩ v3) ∧ CkTn base p v0 W (W3.setCell ⟨p, 0, none⟩ v3) := by
  have h1 := h.later hb
  have o4 := Only.setCell (S := fun k => k = p) W3 ⟨p, 0, none⟩ rfl v3
  have hne : ∀ j, v.ownBlock ≠ some j → ¬ tl.ownBlock = some j := fun j hj e => hj (by rw [hg, ← ht, e])
  have hv3 : v3.ownBlock = v.ownBlock ∨ ∀ k, v3.ownBlock = some k → W'.heap.size ≤ k := by
    rcases hv with e | e
    · exact .inl (by rw [e, ht, hg])
    · exact .inr e
  have hs1 : base ≤ W'.heap.size := h1.sz
  have hap : ∀ j, v.ownBlock ≠ some j → j < base → v3.ownBlock ≠ some j := fun j hj hlt e => by
    rcases hv3 with e2 | e2
    · exact hj (by rw [← e2, e])
    · have := e2 j e
      omega
  refine ⟨⟨(h1.box.only ho (hne b1 h.vb)).only o4 hpb, ((h1.row.only ho (hne p h.pv)).setCell 0 v3).ext (fun i hi => ?_), hw.only o4 (fun k hk e => hap p h.pv hp (by rw [hk, e])), hap p h.pv hp, hap mb h.vm hmb, hap b1 h.vb hb1, ?_, Nat.le_trans hs1 (Nat.le_trans ho.size o4.size)⟩, ?_⟩
  · rcases (show i = 0 ∨ i = 1 by omega) with rfl | rfl <;> simp [updV, ckV]
  · rcases hv3 with e | e
    · rcases h.fr with f | f
      · exact .inl (e.trans f)
      · exact .inr (fun k hk => f k (by rw [← e, hk]))
    · exact .inr (fun k hk => Nat.le_trans hs1 (e k hk))
  · refine (Only.of_below hb).trans ((ho.mono (fun k hk => ?_)).trans (o4.mono (fun k hk => .inl hk)))
    have hk2 : v.ownBlock = some k := by rw [hg, ← ht, hk]
    rcases h.fr with f | f
    · exact .inr (.inl (by rw [← f, hk2]))
    · exact .inr (.inr (f k hk2))
end
theorem wp_appM {P : Program} {Q : Exit → Act → World → Prop} {w : World} {o : Oper} {a : Act} {K : Act → World → Prop} (s x : Operand) (t : TypeId)
    (ho : o.op = .call { callee := .builtin .append, args := #[s, x], argTypes := #[t, t] }) {u y v' : Value} {w' : World} (hs : a.eval s = u) (hx : a.eval x = y) (hr : (Builtin.append_ #[t, t] o.type #[u, y]).run P w = .ok v' w') (h : K (a.put o.dst v') w') : o.wp P a w K Q := by
  unfold Oper.wp execOp
  simp only [ho, resolve, invoke, builtin, Sem.run_bind, Sem.run_pure, Result.andThen_ok, List.map_toArray, List.map_cons, List.map_nil, hs, hx, hr]
  exact h
theorem sizeI (w : World) : (sizeOf 3).run Try.prog w = .ok 1 w := by kernel_rfl
set_option maxRecDepth 100000 in
theorem len_raw {w : World} {p n c : Nat} {a : Option Addr} (c0 : w.cell? ⟨p, 0, none⟩ = some (.slice a n c)) : Calls Try.prog 21 #[.pointer (some ⟨p, 0, none⟩)] w fun e w' => e = .returned (.int .i64 n) ∧ w = w' := by
  go_enter Try.func21, Try.ntmps21
  go_wp2_with (fail)
  go_ret
  exact ⟨rfl, rfl⟩
theorem sizeSl : (Try.prog.info? 38).map (·.size) = some 1 := by kernel_rfl
/-- The clock's turns tell one behind the other. -/
theorem rg_start {base b1 p mb : Nat} {v0 : Value} {L : List Fr} {i : Nat} {W : World} (h : CkRg base b1 p mb v0 L i W) (hL : 0 < L.length) : ∃ y M v, looks i L = y :: M ∧ RgV base b1 p mb v0 (y.1 :: namesL M) v W := by
  obtain ⟨v, h⟩ := h
  cases he : looks i L with
  | nil =>
    have := looks_len i L
    rw [he] at this
    simp at this
    omega
  | cons y M =>
    rw [he] at h
    exact ⟨y, M, v, rfl, h⟩
set_option maxRecDepth 100000 in
set_option maxHeartbeats 4000000 in
theorem turns_seq {w : World} {b1 p mb K : Nat} {v0 : Value} {L : List Fr} (I : ClI L) (hL : 0 < L.length) (hK : 0 < K) (q : Nat) (hq : 6 ≤ q) (hpb : b1 ≠ p) (hp : p < w.heap.size) (hmb : mb < w.heap.size) (hb1 : b1 < w.heap.size) :
    SeqT Fence.wide q Try.prog 35 #[.pointer (some ⟨b1, 0, none⟩)] (fun i => inV (((looks i L)[0]?.getD (0, false, false)).1)) (CkTn (w.heap.size + 2) p v0) (CkRg (w.heap.size + 2) b1 p mb v0 L) K w := by
  intro l J Jx W0 hW hWs hl hT hY h0 hR0
  have HY := Lib.hid hY
  have HT := Lib.hid hT
  have h1 : 1 ≤ q := by omega
  have HI := Lib.hid I
  have hp2 : p < w.heap.size + 2 := by omega
  have hmb2 : mb < w.heap.size + 2 := by omega
  have hb12 : b1 < w.heap.size + 2 := by omega
  clear hY hT I hp hmb hb1 hW hWs hl
  generalize w.heap.size + 2 = base at *
  obtain ⟨Rl, hRl⟩ : ∃ Rl : Nat → World → Prop, Rl = fun i wr => i < K ∧ J i wr ∧ CkRg base b1 p mb v0 L i wr := ⟨_, rfl⟩
  have HRl := Lib.hid hRl
  have HS := Lib.hid (show Rl 0 W0 from by rw [hRl]; exact ⟨hK, h0, hR0⟩)
  clear hRl h0 hR0 hK
  show CallsIn Fence.wide q Try.prog 35 #[.func (.yield l) #[] #[], .pointer (some ⟨b1, 0, none⟩)] W0 _
  refine callsIn_of_wp Try.func35 rfl trivial ?_ rfl
  simp only [Try.ntmps35, List.size_toArray, List.length_cons, List.length_nil, Nat.reduceAdd, Nat.reduceSub, Array.replicate_succ, Array.replicate_zero, List.push_toArray, List.append_toArray, List.nil_append, List.cons_append]
  gi_wp2_with (fail)
  gi_loopw [3] (fun _ wr => ∃ i, Hid (Rl i wr)) (fun _ wr => toCome Rl K wr)
  case atStart => exact ⟨0, HS⟩
  case round =>
    clear HS
    obtain ⟨i0, hi0⟩ := hrel
    obtain ⟨i, hik, hRi⟩ := toCome_at (K := K) hi0.out (by have h5 := hi0.out; rw [HRl.out] at h5; exact Nat.le_of_lt h5.1)
    rw [HRl.out] at hRi
    obtain ⟨hiK, hJi, hrg⟩ := hRi
    obtain ⟨y, M, v, hyM, hrg⟩ := rg_start hrg hL
    have HRG := Lib.hid hrg
    have HJi := Lib.hid hJi
    have HIK := Lib.hid hik
    have HYM := Lib.hid hyM
    have hml : (namesL M).length ≤ 1000 := by
      have h5 := (HI.out.looks i).len
      rw [hyM, List.length_cons] at h5
      rw [namesL_len]
      omega
    obtain ⟨g, o, c, e1, hc1, hc2, k0, htl, hto⟩ := hrg.win.tail
    obtain ⟨ta, hta⟩ : ∃ ta, (if c = 1 then (⟨g, o, none⟩ : Addr) else ⟨g, o + 1 * 1, none⟩) = ta := ⟨_, rfl⟩
    rw [hta] at htl hto
    have HTA := Lib.hid hta
    clear hta
    have HTL := Lib.hid htl
    have HTO := Lib.hid hto
    have hge : v.ownBlock = some g := by rw [e1]; rfl
    have c1 : wr.cell? ⟨b1, 0, none⟩ = some (.pointer (some ⟨p, 0, none⟩)) := hrg.box.cell 0 (by decide)
    have c0 : wr.cell? ⟨p, 0, none⟩ = some v := hrg.row.cell 0 (by decide)
    have HE1 := Lib.hid e1
    rw [e1] at c0
    have hlen := len_raw c0
    have HLEN := Lib.hid hlen
    have hpos : (0 : Int) < ((((namesL M).length + 1 : Nat)) : Int) := by omega
    have hpos2 : decide ((0 : Int) < ((((namesL M).length + 1 : Nat)) : Int)) = true := decide_eq_true hpos
    generalize hnn : (namesL M).length = n1 at *
    clear hrg hJi hik hyM htl hto hlen hi0
    gi_wp2_with (fail)
    refine ⟨trivial, (callsIn_wide.2 HLEN.out).mono ?_⟩
    rintro e w' ⟨rfl, rfl⟩
    gi_wp2_with (fail)
    have L0 := Lib.hid (show ∀ W, Only (fun k => v.ownBlock = some k) wr.drew W → (loadVar 24 ⟨b1, 0, none⟩).run Try.prog W = .ok (.pointer (some ⟨p, 0, none⟩)) W from
      fun W hW => run_loadVar_cell (fun _ => by kernel_rfl) ((World.cell?_of_block (a := ⟨b1, 0, none⟩) (hW.block b1 HRG.out.box.lt HRG.out.vb)).trans c1))
    have L1 := Lib.hid (show ∀ W, Only (fun k => v.ownBlock = some k) wr.drew W → (loadVar 38 ⟨p, 0, none⟩).run Try.prog W = .ok (.slice (some ⟨g, o, none⟩) (n1 + 1) c) W from
      fun W hW => run_loadVar_cell (fun _ => by kernel_rfl) ((World.cell?_of_block (a := ⟨p, 0, none⟩) (hW.block p HRG.out.row.lt HRG.out.pv)).trans c0))
    have L2 := Lib.hid (show ∀ W, Only (fun k => v.ownBlock = some k) wr.drew W → (Instr.sliceAt 38 (.slice (some ⟨g, o, none⟩) (n1 + 1) c) (some (.int .i64 1)) none none).run Try.prog W = .ok (.slice (some ta) n1 (c - 1)) W from
      fun W _ => by rw [← HTA.out]; exact run_sub_from Try.underlying38 sizeI g o (n1 + 1) c 1 (by omega) W)
    obtain ⟨W2, hW2⟩ : ∃ W2, W2 = (wr.alloc (.cells #[vInt y.1] 3)).drew := ⟨_, rfl⟩
    have hb2 : Below wr.heap.size wr W2 := by rw [hW2]; exact below_drewN ((Below.refl _ _).alloc (Nat.le_refl _) _) 1
    have hO2 : Only (fun k => v.ownBlock = some k) wr.drew W2 := by rw [hW2]; exact (show Only (fun k => v.ownBlock = some k) wr.drew (wr.drew.alloc (.cells #[vInt y.1] 3)) from Only.alloc _ _ _)
    obtain ⟨v3, w3, hr3, hw3, ho3, hv3⟩ := app_ck (HTL.out.later hb2) (by rw [hnn]; exact hml) wr.heap.size y.1 (by rw [hW2]; simp [go_sem]) 38
    obtain ⟨a3, n3, e3⟩ := hw3.slice
    rw [List.length_append, List.length_singleton, hnn] at e3
    have hst := HRG.out.turn hb2 hge HTO.out hpb hp2 hmb2 hb12 hw3 ho3 hv3
    have hO3 : Only (fun k => v.ownBlock = some k) wr.drew w3 := hO2.trans (ho3.mono (fun k hk => by rw [hge, ← HTO.out, hk]))
    have HRG3 := Lib.hid (show CkRg base b1 p mb v0 L (i + 1) (w3.setCell ⟨p, 0, none⟩ v3) from ⟨v3, by rw [names_next HYM.out]; exact hst.1⟩)
    have HJ3 := Lib.hid (HT.out i wr _ HJi.out hst.2)
    have hth : w3.cell? ⟨p, 0, none⟩ = some v ∧ w3.frozen? ⟨p, 0, none⟩ = false := by
      have h5 := HRG.out.row.only ((Only.of_below (below_drewN (Below.refl wr.heap.size wr) 1)).trans hO3) HRG.out.pv
      exact ⟨h5.cell 0 (by decide), h5.frozen 0⟩
    have HR3 := Lib.hid hr3
    have HTH := Lib.hid hth
    have HO2 := Lib.hid hO2
    have HO3 := Lib.hid hO3
    have HW2 := Lib.hid hW2
    have HE3 := Lib.hid e3
    clear hr3 hw3 ho3 hv3 hst hth hO2 hO3 hb2 hW2 e1 hge e3
    refine wpIn_wide.2 ?_
    refine wp_region_lexF (fun W => Only (fun k => v.ownBlock = some k) wr.drew W) [(0, false), (1, false), (2, false), (3, false), (4, false), (5, false), (6, false), (7, true), (8, true), (9, false), (10, false)] 11 (by kernel_rfl) (by kernel_rfl) rfl (by kernel_rfl) (Only.refl _ _) ?_
    intro W1 hW1 _
    subst hW1
    refine lexH_load rfl rfl _ _ rfl rfl L0.out ?_
    simp only [List.getElem_toArray, List.getElem_cons_zero, Act.put, List.setIfInBounds_toArray, List.set_cons_zero, List.set_cons_succ]
    refine lexH_load rfl rfl _ _ rfl rfl L0.out ?_
    simp only [List.getElem_toArray, List.getElem_cons_succ, List.getElem_cons_zero, Act.put, List.setIfInBounds_toArray, List.set_cons_zero, List.set_cons_succ]
    refine lexH_yieldE rfl rfl ?_
    apply Exists.intro
    refine ⟨fun W hW => ?_, ?_⟩
    focus (go_simp; exact rfl)
    simp only [List.getElem_toArray, List.getElem_cons_succ, List.getElem_cons_zero, Act.put, List.setIfInBounds_toArray, List.set_cons_zero, List.set_cons_succ]
    refine lexH_yieldE rfl rfl ?_
    apply Exists.intro
    refine ⟨fun W hW => ?_, ?_⟩
    focus (go_simp; exact rfl)
    simp only [List.getElem_toArray, List.getElem_cons_succ, List.getElem_cons_zero, Act.put, List.setIfInBounds_toArray, List.set_cons_zero, List.set_cons_succ]
    refine lexH_load rfl rfl _ _ rfl rfl L1.out ?_
    simp only [List.getElem_toArray, List.getElem_cons_succ, List.getElem_cons_zero, Act.put, List.setIfInBounds_toArray, List.set_cons_zero, List.set_cons_succ]
    refine lexH_slice rfl rfl _ _ _ _ _ rfl L2.out ?_
    simp only [List.getElem_toArray, List.getElem_cons_succ, List.getElem_cons_zero, Act.put, List.setIfInBounds_toArray, List.set_cons_zero, List.set_cons_succ]
    refine lexH_yieldE rfl rfl ?_
    apply Exists.intro
    refine ⟨fun W hW => ?_, ?_⟩
    focus (go_simp; exact rfl)
    simp only [List.getElem_toArray, List.getElem_cons_succ, List.getElem_cons_zero, Act.put, List.setIfInBounds_toArray, List.set_cons_zero, List.set_cons_succ]
    refine lexH_eff rfl rfl ?_
    unfold Oper.wp
    go_simp
    rw [← HW2.out]
    refine ⟨HO2.out, ?_⟩
    refine lexH_eff rfl rfl ?_
    refine wp_appM _ _ _ rfl rfl rfl HR3.out ?_
    refine ⟨HO3.out, ?_⟩
    simp only [List.getElem_toArray, List.getElem_cons_succ, List.getElem_cons_zero, Act.put, List.setIfInBounds_toArray, List.set_cons_zero, List.set_cons_succ]
    refine lexH_yieldE rfl rfl ?_
    apply Exists.intro
    refine ⟨fun W hW => ?_, ?_⟩
    focus (go_simp; exact rfl)
    simp only [List.getElem_toArray, List.getElem_cons_succ, List.getElem_cons_zero, Act.put, List.setIfInBounds_toArray, List.set_cons_zero, List.set_cons_succ]
    refine lexH_yieldE rfl rfl ?_
    apply Exists.intro
    refine ⟨fun W hW => ?_, ?_⟩
    focus (go_simp; exact rfl)
    simp only [List.getElem_toArray, List.getElem_cons_succ, List.getElem_cons_zero, Act.put, List.setIfInBounds_toArray, List.set_cons_zero, List.set_cons_succ]
    refine lexH_last rfl rfl ?_
    have p0 := HTH.out.1
    have q0 := HTH.out.2
    rw [HE3.out] at HRG3 HJ3 ⊢
    unfold Oper.wp
    go_simp
    clear p0 q0 L0 L1 L2 HTH HR3 HO2 HO3 HW2 HE3 HTL HTO HE1 HRG HJi c0 c1 k0 HLEN hpos hpos2
    generalize w3.setCell ⟨p, 0, none⟩ (.slice a3 (n1 + 1) n3) = W4 at *
    have hYj := HY.out i W4 hiK HJ3.out HRG3.out
    rw [HYM.out] at hYj
    simp only [List.getElem?_cons_zero, Option.getD_some] at hYj
    obtain ⟨fn, tmps, assign, body, hyy, hR⟩ := hYj
    gi_wp2_with (fail)
    refine hR.mono ?_
    rintro e W5 (⟨rfl, hi5, hJ5, hR5⟩ | ⟨rfl, hJx5⟩)
    · have HR5 := Lib.hid (show Rl (i + 1) W5 from by rw [HRl.out]; exact ⟨hi5, hJ5, hR5⟩)
      clear hJ5 hR5 hyy hR HRG3 HJ3
      gi_wp2_with (fail)
      go_roundw
      case rel => exact ⟨i + 1, HR5⟩
      case measure =>
        have h5 := toCome_le (K := K) HR5.out (by omega)
        have h6 := HIK.out
        omega
    · clear hyy hR
      gi_wp2_with (fail)
      refine bodyPost_ret (results_none rfl _ _ _) rfl ?_
      exact ⟨⟨_, rfl⟩, i, hiK, hJx5⟩
set_option maxRecDepth 100000 in
set_option maxHeartbeats 4000000 in
theorem turns_tells {w : World} {b1 : Nat} {d : Option Nat} {m : Bool} {own : Nat → Prop} (hc1 : w.cell? ⟨b1, 0, none⟩ = some (.pointer (d.map fun d => ⟨d, 0, none⟩)))
    (hA : ∀ W, (∀ k, own k → W.heap[k]? = w.heap[k]?) → CkMay W d m []) (ho1 : own b1) (holt : ∀ k, own k → k < w.heap.size) :
    Tells Try.prog 35 #[.pointer (some ⟨b1, 0, none⟩)] inV ([] : List Nat) own w := by
  intro q hq l Kp Pn J Jx W0 hW hK hJ hY h0
  have h1 : 1 ≤ q := by omega
  have hsm : ∀ k, own k → W0.heap[k]? = w.heap[k]? := fun k hk => hW.block k (holt k hk)
  have c1 : W0.cell? ⟨b1, 0, none⟩ = some (.pointer (d.map fun d => ⟨d, 0, none⟩)) := (World.cell?_of_block (a := ⟨b1, 0, none⟩) (hsm b1 ho1)).trans hc1
  have HLEN := Lib.hid (len_ck (hA W0 hsm))
  have HJ0 := Lib.hid h0
  clear hc1 hA holt hW hK hJ hY h0 hsm
  generalize (Option.map (fun d => (⟨d, 0, none⟩ : Addr)) d) = D at *
  show CallsIn Fence.wide q Try.prog 35 #[.func (.yield l) #[] #[], .pointer (some ⟨b1, 0, none⟩)] W0 _
  refine callsIn_of_wp Try.func35 rfl trivial ?_ rfl
  simp only [Try.ntmps35, List.size_toArray, List.length_cons, List.length_nil, Nat.reduceAdd, Nat.reduceSub, Array.replicate_succ, Array.replicate_zero, List.push_toArray, List.append_toArray, List.nil_append, List.cons_append]
  gi_wp2_with (fail)
  gi_loopw [3] (fun _ wr => Hid (wr = W0)) (fun _ _ => 0)
  case atStart => exact Lib.hid rfl
  case round =>
    obtain rfl := hrel.out
    gi_wp2_with (fail)
    refine ⟨trivial, (callsIn_wide.2 HLEN.out).mono ?_⟩
    rintro e w' ⟨rfl, rfl⟩
    gi_wp2_with (fail)
    go_end0
    exact ⟨⟨_, rfl⟩, .inl ⟨[], rfl, HJ0.out⟩⟩
set_option maxRecDepth 100000 in
theorem turns_ck (w : World) (D : Option Addr) : Calls Try.prog 29 #[.pointer D] w fun e w' =>
    e = .returned (.func (.func 35) #[] #[.pointer (some ⟨w.heap.size, 0, none⟩)]) ∧ w' = w.alloc (.cells #[.pointer D] 24) := by
  go_enter Try.func29, Try.ntmps29
  go_wp2_with (fail)
  go_ret
  exact ⟨rfl, rfl⟩
theorem call_turns (args : Array Value) (W : World) : (callFunc 35 args).run Try.prog W = .ok (.enter 35 args) W := by kernel_rfl
end Go.Proofs.Ytndddfkebbeemaa
