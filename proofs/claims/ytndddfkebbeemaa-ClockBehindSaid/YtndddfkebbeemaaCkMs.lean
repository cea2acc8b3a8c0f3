/-
  clock: the landed New, Add, Touch; what the hand does to a frame.
-/
import Derived.Test.YtndddfkebbeemaaCkAt
namespace Go.Proofs.Ytndddfkebbeemaa
open Go.RowKit Go.Shelf Go Go.Maps
attribute [local go_sem] Oper.semAt_some

section
variable {P : Program} {w : World} {ops : Array Oper} {rest : List Oper} {o : Oper} {a : Act} {Q : Exit → Act → World → Prop}
theorem wpList_appM (hg : o.guard = none) (s x : Operand) (t : TypeId) (hop : o.op = Op.call { callee := Callee.builtin Builtin.append, args := #[s, x], argTypes := #[t, t] }) {u y v : Value} (hs : a.eval s = u) (hx : a.eval x = y) {w' : World}
    (hr : (Builtin.append_ #[t, t] o.type #[u, y]).run P w = .ok v w') (hK : wpList P ops Q rest (a.put o.dst v) w') : wpList P ops Q (o :: rest) a w := by
  refine wpList_plain hg fun K' hK' => ?_
  unfold Oper.wp
  simp [execOp, hop, resolve, invoke, builtin, hs, hx, hr, Result.andThen]
  exact hK' _ _ hK
end
theorem infoI : (Try.prog.info? 3).map (fun i => (i.zero, i.size, i.bytes)) = some (some (.int .i64 0), 1, 8) := by kernel_rfl
theorem sizeSt : (Try.prog.info? 53).map (·.size) = some 2 := by kernel_rfl
theorem load_st {W : World} {g o : Nat} {x y : Bool} (h0 : W.cell? ⟨g, o, none⟩ = some (.bool x)) (h1 : W.cell? ⟨g, o + 1, none⟩ = some (.bool y)) :
    (loadVar 53 ⟨g, o, none⟩).run Try.prog W = .ok (stV (x, y)) W :=
  run_loadVar_mid (P := Try.prog) W g o 53 [.bool x, .bool y] _ (fun j v hj => by
    match j, hj with
    | 0, hj => simp at hj; subst hj; exact h0
    | 1, hj => simp at hj; subst hj; exact h1) Try.underlying53 rfl sizeSt
theorem make_mp (W : World) : (Instr.makeMap 46 none).run Try.prog W = .ok (.map (some W.heap.size)) (W.alloc (.map #[] 0)) := rfl
/-- append(s, x) of this program. -/
theorem app_ck {w : World} {v : Value} {L : List Nat} (h : WinAt w v L) (hl : L.length ≤ 1000) (xb x : Nat) (hx : w.cell? ⟨xb, 0, none⟩ = some (vInt x)) (ty : TypeId) :
    ∃ v' w', (Builtin.append_ #[38, 38] ty #[v, .slice (some ⟨xb, 0, none⟩) 1 1]).run Try.prog w = .ok v' w' ∧ WinAt w' v' (L ++ [x]) ∧ Only (fun k => v.ownBlock = some k) w w' ∧ (v'.ownBlock = v.ownBlock ∨ ∀ k, v'.ownBlock = some k → w.heap.size ≤ k) := by
  obtain ⟨i0, hi, hz0, hz1, hz2⟩ := info_parts infoI
  exact win_append 38 3 ty i0 Try.underlying38 hi hz0 hz1 hz2 h hl xb 0 x hx
/-- m[x] = c of this program. -/
theorem upd_ck {W : World} {mb : Nat} {f : Int → Option (Bool × Bool)} (h : MpAt W mb f) (hf : ∀ l : List Int, l.Nodup → (∀ x, x ∈ l → (f x).isSome = true) → l.length ≤ 1000) {x : Int} (hx : InZ x) (c : Bool × Bool) :
    ∃ W', (Instr.mapUpdate 46 (.map (some mb)) (.int .i64 x) (stV c)).run Try.prog W = .ok () W' ∧ MpAt W' mb (lput f x c) ∧ Only (fun j => j = mb) W W' :=
  h.store (KE := KI) (E := ES) Try.underlying46 (m := 1000) (fun l hn hl => hf l hn (fun x hx => (hl x hx).2)) (by decide) (wf_inz hx) trivial
section
variable {w w' w1 w3 w5 : World} {p mb : Nat} {v v' : Value} {L L' : List Fr}
/-- Ahead of the store of the ring. -/
theorem CkAt.mid (h : CkAt w p v (some mb) L) (hb : Below w.heap.size w w1) (ho : Only (fun k => v.ownBlock = some k) w1 w3) (u : Value) :
    RowAt w3 p 2 (ckV v (some mb)) ∧ MpAt (w3.setCell ⟨p, 0, none⟩ u) mb (stM L) := by
  have h1 := h.later hb
  refine ⟨h1.row.only ho h.pv, ((h1.mp mb rfl).only ho (h.vm mb rfl)).only (Only.setCell (S := fun k => k = p) w3 ⟨p, 0, none⟩ rfl u) (fun e => h.pm (by rw [e]))⟩
/-- The clock behind a turn of its ring and of its map. -/
theorem CkAt.put (h : CkAt w p v (some mb) L) (hb : Below w.heap.size w w1) (ho : Only (fun k => v.ownBlock = some k) w1 w3) (hw : WinAt w3 v' (namesL L')) (hv : v'.ownBlock = v.ownBlock ∨ ∀ k, v'.ownBlock = some k → w1.heap.size ≤ k)
    (hm : MpAt w5 mb (stM L')) (hom : Only (fun j => j = mb) (w3.setCell ⟨p, 0, none⟩ v') w5) : TTurn w (thC p v (some mb) L) w5 (thC p v' (some mb) L') := by
  have h1 := h.later hb
  have hr := (h.mid hb ho v').1
  have o4 := Only.setCell (S := fun k => k = p) w3 ⟨p, 0, none⟩ rfl v'
  have hmb : mb < w1.heap.size := (h1.mp mb rfl).lt
  have hp : p < w1.heap.size := h1.row.lt
  have hvp : v'.ownBlock ≠ some p := by
    rcases hv with e | e
    · rw [e]; exact h.pv
    · intro e2
      have := e p e2
      omega
  have hvm : v'.ownBlock ≠ some mb := by
    rcases hv with e | e
    · rw [e]; exact h.vm mb rfl
    · intro e2
      have := e mb e2
      omega
  have hpm : p ≠ mb := fun e => h.pm (by rw [e])
  refine ⟨⟨?_, ?_, fun mb2 e => (by cases e; exact hm), fun e => (by cases e), hvp, h.pm, fun mb2 e => (by cases e; exact hvm)⟩, ?_, fun k hk => ?_⟩
  · refine ((hr.setCell 0 v').ext (fun i hi => ?_)).only hom hpm
    rcases (show i = 0 ∨ i = 1 by omega) with rfl | rfl <;> simp [updV, ckV]
  · refine (hw.only o4 (fun k hk e => hvp (by rw [hk, e]))).only hom (fun k hk e => hvm (by rw [hk, e]))
  · refine (Only.of_below hb).trans ((ho.mono (fun k hk => .inr (.inl hk))).trans ((o4.mono (fun k hk => .inl hk)).trans (hom.mono (fun k hk => .inr (.inr (by rw [hk]))))))
  · rcases hk with rfl | hk | hk
    · exact .inl (.inl rfl)
    · rcases hv with e | e
      · exact .inl (.inr (.inl (by rw [← e]; exact hk)))
      · exact .inr (Nat.le_trans hb.size (e k hk))
    · exact .inl (.inr (.inr hk))
/-- .. of its map alone. -/
theorem CkAt.putM (h : CkAt w p v (some mb) L) (hb : Below w.heap.size w w1) (hn : namesL L' = namesL L) (hm : MpAt w5 mb (stM L')) (hom : Only (fun j => j = mb) w1 w5) : TTurn w (thC p v (some mb) L) w5 (thC p v (some mb) L') := by
  have h1 := h.later hb
  have hpm : p ≠ mb := fun e => h.pm (by rw [e])
  refine ⟨⟨h1.row.only hom hpm, by rw [hn]; exact h1.win.only hom (fun k hk e => h.vm mb rfl (by rw [hk, e])), fun mb2 e => (by cases e; exact hm), fun e => (by cases e), h.pv, h.pm, h.vm⟩, ?_, fun k hk => .inl hk⟩
  exact (Only.of_below hb).trans (hom.mono (fun k hk => .inr (.inr (by rw [hk]))))
theorem thC_same {mo : Option Nat} (h : CkAt w p v mo L) (hb : Below w.heap.size w w') : TTurn w (thC p v mo L) w' (thC p v mo L) :=
  ⟨h.later hb, Only.of_below hb, fun _ hk => .inl hk⟩
/-- What New and Copy leave. -/
def CkN (w : World) (L : List Fr) (e : Ending) (w' : World) : Prop := ∃ d v mb, e = .returned (.pointer (some ⟨d, 0, none⟩)) ∧ TTurn w Thg.no w' (thC d v (some mb) L)
/-- A clock that is made of a ring and a map. -/
theorem ckN_of {w W : World} {mb : Nat} {v : Value} {L : List Fr} (hb : Below w.heap.size w W) (hw : WinAt W v (namesL L)) (hm : MpAt W mb (stM L)) (hmb : w.heap.size ≤ mb) (hvn : ∀ k, v.ownBlock = some k → w.heap.size ≤ k) (hvm : v.ownBlock ≠ some mb) :
    CkN w L (.returned (.pointer (some ⟨W.heap.size, 0, none⟩))) (W.alloc (.cells #[v, .map (some mb)] 48)) := by
  have hb2 := (Below.refl W.heap.size W).alloc (Nat.le_refl _) (.cells #[v, .map (some mb)] 48)
  have hl := hm.lt
  refine ⟨W.heap.size, v, mb, rfl, ⟨RowAt.new W _ _ 2 _ (fun i hi => ?_), hw.later hb2, fun mb2 e => (by cases e; exact hm.later hb2), fun e => (by cases e), fun e => ?_, fun e => ?_, fun mb2 e => (by cases e; exact hvm)⟩, ?_, fun k hk => ?_⟩
  · unfold ckV
    rcases (show i = 0 ∨ i = 1 by omega) with rfl | rfl <;> rfl
  · have := hw.lt e
    omega
  · injection e with e
    omega
  · exact Only.of_below (hb.trans (hb2.mono hb.size))
  · refine .inr ?_
    rcases hk with rfl | hk | hk
    · exact hb.size
    · exact hvn k hk
    · injection hk with hk
      omega
set_option maxRecDepth 100000 in
set_option maxHeartbeats 2000000 in
theorem new_ck (w : World) : Calls Try.prog 10 #[] w (CkN w []) := by
  have hk := make_mp
  have hb1 := (Below.refl w.heap.size w).alloc (Nat.le_refl _) (.map #[] 0)
  have HN := Lib.hid (ckN_of (mb := w.heap.size) (v := .slice none 0 0) (L := []) hb1 (WinAt.nil _) (lmap_made Try.prog 3 KI ES w) (Nat.le_refl _) (fun k e => by simp [Value.ownBlock] at e) (by simp [Value.ownBlock]))
  rw [World.size_alloc] at HN
  clear hb1
  go_enter Try.func10, Try.ntmps10
  go_wp2_with (fail)
  go_ret
  exact HN.out
/-- What Add, Remove and Touch leave. -/
def CkT (w : World) (p : Nat) (v : Value) (mb : Nat) (L : List Fr) (E : Int) (L' : List Fr) (e : Ending) (w' : World) : Prop := e = .returned (.int .i64 E) ∧ ∃ v', TTurn w (thC p v (some mb) L) w' (thC p v' (some mb) L')
theorem CkT.same (h : CkAt w p v (some mb) L) {E : Int} (hb : Below w.heap.size w w') : CkT w p v mb L E L (.returned (.int .i64 E)) w' := ⟨rfl, v, thC_same h hb⟩
set_option maxRecDepth 100000 in
set_option maxHeartbeats 4000000 in
theorem add_ck (h : CkAt w p v (some mb) L) (hlen : L.length < 1000) {x : Int} (hx : InZ x) : Calls Try.prog 11 #[.pointer (some ⟨p, 0, none⟩), .int .i64 x] w (CkT w p v mb L (addE L x) (addL L x)) := by
  have HA := Lib.hid h
  have HM := Lib.hid (missing_ck (d := some p) (m := true) ⟨v, some mb, h, rfl⟩)
  have HH := Lib.hid (has_ck (d := some p) (m := true) ⟨v, some mb, h, rfl⟩ hx)
  simp only [Option.map_some, Bool.not_true] at HM HH
  by_cases h0 : x < 0
  · rw [show addE L x = 2 from if_pos h0, show addL L x = L from if_pos (.inl h0)]
    clear h
    go_enter Try.func11, Try.ntmps11
    go_wp2_with (fail)
    refine HM.out.mono ?_
    rintro e w1 ⟨rfl, rfl⟩
    go_wp2_with (fail)
    go_ret
    exact CkT.same HA.out (Below.refl _ _)
  · cases hh : hasL L x with
    | true =>
      rw [show addE L x = 8 by unfold addE; rw [if_neg h0, if_pos hh], show addL L x = L from if_pos (.inr hh)]
      rw [hh] at HH
      clear h hh
      go_enter Try.func11, Try.ntmps11
      go_wp2_with (fail)
      refine HM.out.mono ?_
      rintro e w1 ⟨rfl, rfl⟩
      go_wp2_with (fail)
      refine HH.out.mono ?_
      rintro e w1 ⟨rfl, hb⟩
      have HB := Lib.hid hb
      clear hb
      go_wp2_with (fail)
      go_ret
      exact CkT.same HA.out HB.out
    | false =>
      rw [show addE L x = 0 by unfold addE; rw [if_neg h0, if_neg (by rw [hh]; decide)], show addL L x = L ++ [(x.toNat, true, true)] from if_neg (fun q => q.elim h0 (fun q => by rw [hh] at q; cases q))]
      have HST := Lib.hid (stM_add (L := L) (by omega) hh)
      rw [hh] at HH
      obtain ⟨X, rfl⟩ : ∃ X : Nat, x = X := ⟨x.toNat, by omega⟩
      rw [Int.toNat_natCast] at HST ⊢
      have HF := Lib.hid (stM_few (L := L) (k := 1000) (by omega))
      have HX := Lib.hid hx
      have HL := Lib.hid (show (namesL L).length ≤ 1000 by rw [namesL_len]; omega)
      clear h hh hlen hx
      go_enter Try.func11, Try.ntmps11
      go_wp2_with (fail)
      refine HM.out.mono ?_
      rintro e w1 ⟨rfl, rfl⟩
      go_wp2_with (fail)
      refine HH.out.mono ?_
      rintro e w1 ⟨rfl, hb⟩
      obtain ⟨W2, hW2⟩ : ∃ W2, W2 = w1.alloc (.cells #[.int .i64 (X : Int)] 3) := ⟨_, rfl⟩
      have HB2 := Lib.hid (show Below w.heap.size w W2 from by rw [hW2]; exact hb.alloc hb.size _)
      have HA2 := Lib.hid (HA.out.later HB2.out)
      have c0 := (HA.out.later hb).c0
      obtain ⟨v3, w3, hr3, hw3, ho3, hv3⟩ := app_ck HA2.out.win HL.out w1.heap.size X (by rw [hW2]; simp [go_sem]) 38
      rw [hW2] at hr3
      obtain ⟨a1, n1, e1⟩ := HA.out.win.slice
      obtain ⟨a3, n3, e3⟩ := hw3.slice
      rw [List.length_append, List.length_singleton] at e3
      have HR3 := Lib.hid hr3
      have HMID := HA.out.mid HB2.out ho3 v3
      have p0 := HMID.1.cell 0 (by decide)
      have p1 := HMID.1.cell 1 (by decide)
      have q0 := HMID.1.frozen 0
      rw [show ckV v (some mb) 0 = v from rfl] at p0
      rw [show ckV v (some mb) 1 = .map (some mb) from rfl] at p1
      obtain ⟨w5, hu5, hm5, ho5⟩ := upd_ck HMID.2 HF.out HX.out (true, true)
      have HT := Lib.hid (HA.out.put (L' := L ++ [(X, true, true)]) HB2.out ho3 (by rw [show namesL (L ++ [(X, true, true)]) = namesL L ++ [X] by simp [namesL]]; exact hw3) hv3 (hm5.ext (fun y _ => HST.out y)) ho5)
      have HU5 := Lib.hid hu5
      clear hb HA2 hr3 hw3 ho3 hv3 HMID hu5 hm5 ho5 HB2
      rw [e1] at c0 p0 HR3
      rw [e3] at HR3 HU5
      clear e1 hW2
      go_wp2_with (first | (refine wpList_appM rfl _ _ _ rfl rfl rfl HR3.out ?_) | (refine wpList_updM rfl _ _ _ _ rfl rfl rfl rfl HU5.out ?_) | fail)
      go_ret
      exact ⟨rfl, v3, HT.out⟩
set_option maxRecDepth 100000 in
set_option maxHeartbeats 4000000 in
theorem touch_ck (h : CkAt w p v (some mb) L) (I : ClI L) {x : Int} (hx : InZ x) : Calls Try.prog 15 #[.pointer (some ⟨p, 0, none⟩), .int .i64 x] w (CkT w p v mb L (noE L x) (touL L x)) := by
  have HA := Lib.hid h
  have HM := Lib.hid (missing_ck (d := some p) (m := true) ⟨v, some mb, h, rfl⟩)
  simp only [Option.map_some, Bool.not_true] at HM
  have HLK := Lib.hid (h.look hx)
  have c1 := h.c1
  cases hh : hasL L x with
  | false =>
    rw [show noE L x = 7 from if_neg (by rw [hh]; decide), show touL L x = L from if_neg (by rw [hh]; decide)]
    rw [hh] at HLK
    obtain ⟨⟨a, t⟩, hat⟩ : ∃ c, (stM L x).getD (false, false) = c := ⟨_, rfl⟩
    rw [hat] at HLK
    have HB := Lib.hid ((Below.refl w.heap.size w).alloc (Nat.le_refl _) (.cells #[.bool a, .bool t] 53))
    clear h hh hat
    go_enter Try.func15, Try.ntmps15
    go_wp2_with (fail)
    refine HM.out.mono ?_
    rintro e w1 ⟨rfl, rfl⟩
    go_wp2_with (first | (refine wpList_lookM rfl _ _ _ _ rfl rfl rfl HLK.out ?_) | fail)
    go_ret
    exact CkT.same HA.out HB.out
  | true =>
    rw [show noE L x = 0 from if_pos hh]
    rw [hh] at HLK
    obtain ⟨⟨a, t⟩, hat⟩ : ∃ c, stM L x = some c := Option.isSome_iff_exists.1 ((stM_has L x).trans hh)
    have HST := Lib.hid (stM_tou hat)
    rw [hat] at HLK
    have HF := Lib.hid (stM_few (L := L) (k := 1000) I.len)
    have HX := Lib.hid hx
    have HN := Lib.hid (touL_names L x)
    clear h hh hat I hx
    simp only [Option.getD_some] at HLK
    obtain ⟨W2, hW2⟩ : ∃ W2, W2 = w.alloc (.cells #[.bool a, .bool true] 53) := ⟨_, rfl⟩
    have HB2 := Lib.hid (show Below w.heap.size w W2 from by rw [hW2]; exact (Below.refl _ _).alloc (Nat.le_refl _) _)
    have b0 : W2.cell? ⟨w.heap.size, 0, none⟩ = some (.bool a) := by rw [hW2]; simp [go_sem]
    have b1 : W2.cell? ⟨w.heap.size, 1, none⟩ = some (.bool true) := by rw [hW2]; simp [go_sem]
    have hd : Below w.heap.size w W2.drew := below_drewN HB2.out 1
    obtain ⟨w5, hu5, hm5, ho5⟩ := upd_ck ((HA.out.mp mb rfl).later hd) HF.out HX.out (a, true)
    have HT := Lib.hid (HA.out.putM (L' := touL L x) hd HN.out (hm5.ext (fun y _ => HST.out y)) ho5)
    have HU5 := Lib.hid hu5
    have M0 := Lib.hid (show ∀ W, W = W2.drew → (loadVar 46 ⟨p, 1, none⟩).run Try.prog W = .ok (.map (some mb)) W from fun W hW => by
      subst hW
      exact run_loadVar_cell (fun _ => by kernel_rfl) (HA.out.later hd).c1)
    have M1 := Lib.hid (show ∀ W, W = W2.drew → (loadVar 53 ⟨w.heap.size, 0, none⟩).run Try.prog W = .ok (stV (a, true)) W from fun W hW => by
      subst hW
      exact load_st b0 b1)
    clear hd hu5 hm5 ho5 b0 b1
    go_enter Try.func15, Try.ntmps15
    go_wp2_with (fail)
    refine HM.out.mono ?_
    rintro e w1 ⟨rfl, rfl⟩
    go_wp2_with (first | (refine wpList_lookM rfl _ _ _ _ rfl rfl rfl HLK.out ?_) | fail)
    rw [← hW2]
    refine wp_region_lexF (fun W => W = W2.drew) [(0, false), (1, false), (2, false), (3, false), (4, false), (5, false)] 6 (by kernel_rfl) (by kernel_rfl) rfl (by kernel_rfl) rfl ?_
    intro W1 hW1 _
    refine lexH_yieldE rfl rfl ?_
    apply Exists.intro
    refine ⟨fun W hW => ?_, ?_⟩
    focus (go_simp; exact rfl)
    simp only [List.getElem_toArray, List.getElem_cons_zero, Act.put, List.setIfInBounds_toArray, List.set_cons_zero, List.set_cons_succ]
    refine lexH_yieldE rfl rfl ?_
    apply Exists.intro
    refine ⟨fun W hW => ?_, ?_⟩
    focus (go_simp; exact rfl)
    simp only [List.getElem_toArray, List.getElem_cons_succ, List.getElem_cons_zero, Act.put, List.setIfInBounds_toArray, List.set_cons_zero, List.set_cons_succ]
    refine lexH_yieldE rfl rfl ?_
    apply Exists.intro
    refine ⟨fun W hW => ?_, ?_⟩
    focus (go_simp; exact rfl)
    simp only [List.getElem_toArray, List.getElem_cons_succ, List.getElem_cons_zero, Act.put, List.setIfInBounds_toArray, List.set_cons_zero, List.set_cons_succ]
    refine lexH_load rfl rfl _ _ rfl rfl M0.out ?_
    simp only [List.getElem_toArray, List.getElem_cons_succ, List.getElem_cons_zero, Act.put, List.setIfInBounds_toArray, List.set_cons_zero, List.set_cons_succ]
    refine lexH_yieldE rfl rfl ?_
    apply Exists.intro
    refine ⟨fun W hW => ?_, ?_⟩
    focus (go_simp; exact rfl)
    simp only [List.getElem_toArray, List.getElem_cons_succ, List.getElem_cons_zero, Act.put, List.setIfInBounds_toArray, List.set_cons_zero, List.set_cons_succ]
    refine lexH_load rfl rfl _ _ rfl rfl M1.out ?_
    simp only [List.getElem_toArray, List.getElem_cons_succ, List.getElem_cons_zero, Act.put, List.setIfInBounds_toArray, List.set_cons_zero, List.set_cons_succ]
    refine lexH_last rfl rfl ?_
    rw [hW1]
    refine wp_updM rfl rfl rfl rfl HU5.out ?_
    clear M0 M1 hW1 HU5
    go_wp2_with (fail)
    go_ret
    exact ⟨rfl, v, HT.out⟩
/-- What the hand does to a frame. -/
def LkP (w : World) (mb : Nat) (f : Int → Option (Bool × Bool)) (n : Int) (a t : Bool) (e : Ending) (w' : World) : Prop := e = .returned (.bool (!a && !t)) ∧ MpAt w' mb (lput f n (t, false)) ∧ Only (fun j => j = mb) w w'
set_option maxRecDepth 100000 in
set_option maxHeartbeats 4000000 in
theorem look_ck {f : Int → Option (Bool × Bool)} {n : Int} {a t : Bool} (c1 : w.cell? ⟨p, 1, none⟩ = some (.map (some mb))) (h : MpAt w mb f) (hf : ∀ l : List Int, l.Nodup → (∀ x, x ∈ l → (f x).isSome = true) → l.length ≤ 1000) (hn : InZ n) (hat : f n = some (a, t)) :
    Calls Try.prog 30 #[.pointer (some ⟨p, 0, none⟩), .int .i64 n] w (LkP w mb f n a t) := by
  have hlk := h.look1 (KE := KI) (E := ES) Try.underlying46 (false, false) trivial (zeroSt w) (wf_inz hn)
  rw [show (f n).getD (false, false) = (a, t) by rw [hat]; rfl] at hlk
  have HLK := Lib.hid (show (Instr.lookup 46 (.map (some mb)) (.int .i64 n) false).run Try.prog w = .ok (.agg #[.bool a, .bool t]) w from hlk)
  clear hlk
  obtain ⟨W2, hW2⟩ : ∃ W2, W2 = w.alloc (.cells #[.bool a, .bool t] 53) := ⟨_, rfl⟩
  have HB2 := Lib.hid (show Below w.heap.size w W2 from by rw [hW2]; exact (Below.refl _ _).alloc (Nat.le_refl _) _)
  have b0 : W2.cell? ⟨w.heap.size, 0, none⟩ = some (.bool a) := by rw [hW2]; simp [go_sem]
  have b1 : W2.cell? ⟨w.heap.size, 1, none⟩ = some (.bool t) := by rw [hW2]; simp [go_sem]
  have hd : Below w.heap.size w W2.drew := below_drewN HB2.out 1
  obtain ⟨w5, hu5, hm5, ho5⟩ := upd_ck (h.later hd) hf hn (t, false)
  have k1 := (hd.cell (p := ⟨p, 1, none⟩) (World.block_lt_of_cell? _ _ c1)).trans c1
  have hmb := h.lt
  have d0 : w5.cell? ⟨w.heap.size, 0, none⟩ = some (.bool a) := (World.cell?_of_block (a := ⟨w.heap.size, 0, none⟩) (ho5.block _ (by show w.heap.size < W2.heap.size; rw [hW2]; simp) (by show ¬ w.heap.size = mb; omega))).trans b0
  have d1 : w5.cell? ⟨w.heap.size, 1, none⟩ = some (.bool t) := (World.cell?_of_block (a := ⟨w.heap.size, 1, none⟩) (ho5.block _ (by show w.heap.size < W2.heap.size; rw [hW2]; simp) (by show ¬ w.heap.size = mb; omega))).trans b1
  have HP := Lib.hid (show LkP w mb f n a t (.returned (.bool (!a && !t))) w5 from ⟨rfl, hm5, (Only.of_below hd).trans ho5⟩)
  have HU5 := Lib.hid hu5
  have M0 := Lib.hid (show ∀ W, W = W2.drew → (loadVar 46 ⟨p, 1, none⟩).run Try.prog W = .ok (.map (some mb)) W from fun W hW => by
    subst hW
    exact run_loadVar_cell (fun _ => by kernel_rfl) k1)
  have M1 := Lib.hid (show ∀ W, W = W2.drew → (loadVar 4 ⟨w.heap.size, 1, none⟩).run Try.prog W = .ok (.bool t) W from fun W hW => by
    subst hW
    exact run_loadVar_cell (fun _ => by kernel_rfl) b1)
  clear hd hu5 hm5 ho5 b0 b1 k1 h hf hat HB2
  have D0 := Lib.hid d0
  have D1 := Lib.hid d1
  clear d0 d1
  go_enter Try.func30, Try.ntmps30
  go_wp2_with (first | (refine wpList_lookM rfl _ _ _ _ rfl rfl rfl HLK.out ?_) | fail)
  rw [← hW2]
  refine wp_region_lexF (fun W => W = W2.drew) [(0, false), (1, false), (2, false), (3, false), (4, false), (5, false), (6, false), (7, false)] 8 (by kernel_rfl) (by kernel_rfl) rfl (by kernel_rfl) rfl ?_
  intro W1 hW1 _
  refine lexH_yieldE rfl rfl ?_
  apply Exists.intro
  refine ⟨fun W hW => ?_, ?_⟩
  focus (go_simp; exact rfl)
  simp only [List.getElem_toArray, List.getElem_cons_zero, Act.put, List.setIfInBounds_toArray, List.set_cons_zero, List.set_cons_succ]
  refine lexH_yieldE rfl rfl ?_
  apply Exists.intro
  refine ⟨fun W hW => ?_, ?_⟩
  focus (go_simp; exact rfl)
  simp only [List.getElem_toArray, List.getElem_cons_succ, List.getElem_cons_zero, Act.put, List.setIfInBounds_toArray, List.set_cons_zero, List.set_cons_succ]
  refine lexH_yieldE rfl rfl ?_
  apply Exists.intro
  refine ⟨fun W hW => ?_, ?_⟩
  focus (go_simp; exact rfl)
  simp only [List.getElem_toArray, List.getElem_cons_succ, List.getElem_cons_zero, Act.put, List.setIfInBounds_toArray, List.set_cons_zero, List.set_cons_succ]
  refine lexH_load rfl rfl _ _ rfl rfl M0.out ?_
  simp only [List.getElem_toArray, List.getElem_cons_succ, List.getElem_cons_zero, Act.put, List.setIfInBounds_toArray, List.set_cons_zero, List.set_cons_succ]
  refine lexH_yieldE rfl rfl ?_
  apply Exists.intro
  refine ⟨fun W hW => ?_, ?_⟩
  focus (go_simp; exact rfl)
  simp only [List.getElem_toArray, List.getElem_cons_succ, List.getElem_cons_zero, Act.put, List.setIfInBounds_toArray, List.set_cons_zero, List.set_cons_succ]
  refine lexH_yieldE rfl rfl ?_
  apply Exists.intro
  refine ⟨fun W hW => ?_, ?_⟩
  focus (go_simp; exact rfl)
  simp only [List.getElem_toArray, List.getElem_cons_succ, List.getElem_cons_zero, Act.put, List.setIfInBounds_toArray, List.set_cons_zero, List.set_cons_succ]
  refine lexH_load rfl rfl _ _ rfl rfl M1.out ?_
  simp only [List.getElem_toArray, List.getElem_cons_succ, List.getElem_cons_zero, Act.put, List.setIfInBounds_toArray, List.set_cons_zero, List.set_cons_succ]
  refine lexH_yieldE rfl rfl ?_
  apply Exists.intro
  refine ⟨fun W hW => ?_, ?_⟩
  focus (go_simp; exact rfl)
  simp only [List.getElem_toArray, List.getElem_cons_succ, List.getElem_cons_zero, Act.put, List.setIfInBounds_toArray, List.set_cons_zero, List.set_cons_succ]
  refine lexH_last rfl rfl ?_
  rw [hW1]
  refine wp_updM rfl rfl rfl rfl HU5.out ?_
  clear M0 M1 hW1 HU5
  have d0 := D0.out
  have d1 := D1.out
  cases a with
  | true =>
    go_wp2_with (fail)
    go_ret
    exact HP.out
  | false =>
    cases t <;>
      (go_wp2_with (fail)
       go_ret
       exact HP.out)
end
end Go.Proofs.Ytndddfkebbeemaa
