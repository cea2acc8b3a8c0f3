/-
  depot's document: Drain.
-/
import Derived.Test.YtagnipkannogoaaDpRAll
import Derived.Test.YtagnipkannogoaaDpLawTurns
namespace Go.Proofs.Ytagnipkannogoaa
open Go.RowKit Go
section
variable {w0 w w' : World} {X : Thg} {r N k : Nat} {F : List Obs} {Q A : Obs} {l l2 : List Rw} {u vF vQ : Value} {G : List (Value × Obs)}
theorem perm_dr {C D O S q : Rw} {I l : List Rw} : (C :: D :: O :: S :: q :: (I ++ l)).Perm (q :: C :: S :: D :: (I ++ (O :: l))) := by
  have h1 : (q :: C :: S :: D :: (O :: (I ++ l))).Perm (q :: C :: S :: D :: (I ++ (O :: l))) := ((((List.perm_middle (a := O) (l₁ := I) (l₂ := l)).symm.cons D).cons S).cons C).cons q
  refine List.Perm.trans ?_ h1
  have h3 : [C, D, O, S, q].Perm [q, C, S, D, O] := by
    refine (List.perm_append_comm (l₁ := [C, D, O, S]) (l₂ := [q])).trans ?_
    refine List.Perm.cons q (List.Perm.cons C ?_)
    exact List.perm_append_comm (l₁ := [D, O]) (l₂ := [S])
  exact h3.append_right (I ++ l)
theorem ownsCap {a : Option Addr} {n c : Nat} (h : FK w0 X (rO (.slice a n c) A :: l) w) : A.length ≤ c := by
  have h1 := h.row _ List.mem_cons_self
  obtain ⟨_, ⟨e9, e8⟩ | ⟨g9, cap, cur, e9, _, _, h9, _⟩⟩ := h1
  · have e7 : A.length = 0 := e8
    omega
  · injection e9 with _ _ e9
    have h8 : A.length ≤ cap := h9
    omega
set_option maxRecDepth 100000 in
set_option maxHeartbeats 8000000 in
theorem rdrain_neg {k : Int} (hk : k < 0) (h : RD w0 X r N F Q l w) (hq : Q.length ≤ 10000) : Calls Try.prog 18 #[.pointer (some ⟨r, 0, none⟩), .int .i64 k] w fun e w' => ∃ v, e = .returned v ∧ RD w0 X r N F (Q.drop 0) (rO v (Q.take 0) :: l) w' := by
  obtain ⟨vF, vQ, G, e, h⟩ := h
  have HG := Lib.hid e
  obtain ⟨aQ, cQ, eQ⟩ := FK.lenO h.third
  subst eQ
  have HQ := Lib.hid hq
  have hm : 0 ≤ Q.length := by omega
  have HM := Lib.hid hm
  have hcap := ownsCap h.third
  have HCAP := Lib.hid hcap
  have S1 := Lib.hid (show ∀ V : World, (Instr.sliceAt 30 (.slice aQ Q.length cQ) none (some (.int .i64 (0 : Nat))) none).run Try.prog V = .ok (.slice aQ 0 cQ) V from fun V => run_sub_toN (P := Try.prog) (t := 30) (e := TO) (s := 2) Try.underlying30 (fun _ => by kernel_rfl) _ _ _ 0 (Nat.le_trans hm hcap) V)
  obtain ⟨vd, hvd⟩ : ∃ vd, Value.slice (if cQ = 0 then aQ else aQ.map fun x => x.add (0 * 2)) (Q.length - 0) (cQ - 0) = vd := ⟨_, rfl⟩
  have HVD := Lib.hid hvd
  have S2 := Lib.hid (show ∀ V : World, (Instr.sliceAt 30 (.slice aQ Q.length cQ) (some (.int .i64 (0 : Nat))) none none).run Try.prog V = .ok vd V from fun V => hvd ▸ run_sub_fromN (P := Try.prog) (t := 30) (e := TO) (s := 2) Try.underlying30 (fun _ => by kernel_rfl) _ _ _ 0 hm V)
  have ha0 : Below w.heap.size w (w.alloc (.cells #[] TO)) := (Below.refl _ _).alloc (Nat.le_refl _) _
  have HK := Lib.hid (show FK w0 X (rO (.slice (some ⟨w.heap.size, 0, none⟩) 0 0) [] :: dRows r N vF (.slice aQ Q.length cQ) G Q l) (w.alloc (.cells #[] TO)) from FK.fresh h ha0 (World.ownsRow_made w (e := TO) (base := 0) (size := 2) #[] 0 (Nat.zero_le _) (Nat.zero_le _) (by simp)) (fun k hk => by simp [rO, Value.ownBlock] at hk; omega))
  have HS := Lib.hid ((dRows_q HK.out).take hm)
  have c2 := FK.cell h (j := 2) rfl
  have ca := FK.cell HK.out.swap (j := 2) rfl
  have HLEN := Lib.hid (show ([] : Obs).length + (Q.take 0).length ≤ 100000 by rw [List.length_take]; simp <;> omega)
  have HLEN2 := Lib.hid (show ([] : Obs).length + (Q.drop 0).length ≤ 100000 by rw [List.length_drop]; simp <;> omega)
  have hk2 : ¬ ((Q.length : Int) < 0) := by omega
  clear h e ha0 hcap hvd hm hq
  go_enter Try.func18, Try.ntmps18
  go_wp2_with (first
    | (refine wpList_slice_run rfl 30 _ _ _ _ rfl _ (S1.out _) ?_)
    | (refine wpList_slice_run rfl 30 _ _ _ _ rfl _ (S2.out _) ?_)
    | (at_builtin; refine wpList_fkOS rfl _ _ rfl HK.out HLEN.out HS.out rfl rfl ?_
       intro v1 w1 hK1 _
       rw [List.nil_append] at hK1
       have HK2 := Lib.hid (show FK w0 X (rO (.slice (some ⟨w1.heap.size, 0, none⟩) 0 0) [] :: _) (w1.alloc (.cells #[] TO)) from FK.fresh hK1 ((Below.refl _ _).alloc (Nat.le_refl _) _) (World.ownsRow_made w1 (e := TO) (base := 0) (size := 2) #[] 0 (Nat.zero_le _) (Nat.zero_le _) (by simp)) (fun k hk => by simp [rO, Value.ownBlock] at hk; omega))
       have d2 := FK.cell HK2.out.third (j := 2) rfl
       have HS2 := Lib.hid (show SrcO (w1.alloc (.cells #[] TO)) vd (Q.drop 0) by
         rw [← HVD.out]
         exact (dRows_q HK2.out.swap.drop).drop HM.out HCAP.out)
       clear hK1 HK HS c2 ca)
    | (at_builtin; refine wpList_fkOS rfl _ _ rfl HK2.out HLEN2.out HS2.out rfl rfl ?_
       intro v2 w2 hK3 _
       rw [List.nil_append] at hK3
       obtain ⟨a2, q2, e2⟩ := FK.lenO hK3
       subst e2
       have HK4 := Lib.hid hK3.third
       have d3 := FK.cell HK4.out (j := 2) rfl
       have f3 := FK.frz HK4.out (j := 2) rfl
       clear hK3 HK2 HS2 d2)
    | fail)
  have HF := Lib.hid (FK.put HK4.out 2 (.slice a2 (Q.drop 0).length q2))
  go_ret
  have h9 := (HF.out.perm perm_dr).drop
  exact ⟨v1, rfl, vF, .slice a2 (Q.drop 0).length q2, G, HG.out, h9⟩
set_option maxRecDepth 100000 in
set_option maxHeartbeats 8000000 in
theorem rdrain_all {k : Int} (hk : ¬ k < 0) (hk2 : (Q.length : Int) < k) (h : RD w0 X r N F Q l w) (hq : Q.length ≤ 10000) : Calls Try.prog 18 #[.pointer (some ⟨r, 0, none⟩), .int .i64 k] w fun e w' => ∃ v, e = .returned v ∧ RD w0 X r N F (Q.drop Q.length) (rO v (Q.take Q.length) :: l) w' := by
  obtain ⟨vF, vQ, G, e, h⟩ := h
  have HG := Lib.hid e
  obtain ⟨aQ, cQ, eQ⟩ := FK.lenO h.third
  subst eQ
  have HQ := Lib.hid hq
  have hm : Q.length ≤ Q.length := by omega
  have HM := Lib.hid hm
  have hcap := ownsCap h.third
  have HCAP := Lib.hid hcap
  have S1 := Lib.hid (show ∀ V : World, (Instr.sliceAt 30 (.slice aQ Q.length cQ) none (some (.int .i64 (Q.length : Nat))) none).run Try.prog V = .ok (.slice aQ Q.length cQ) V from fun V => run_sub_toN (P := Try.prog) (t := 30) (e := TO) (s := 2) Try.underlying30 (fun _ => by kernel_rfl) _ _ _ Q.length (Nat.le_trans hm hcap) V)
  obtain ⟨vd, hvd⟩ : ∃ vd, Value.slice (if cQ = Q.length then aQ else aQ.map fun x => x.add (Q.length * 2)) (Q.length - Q.length) (cQ - Q.length) = vd := ⟨_, rfl⟩
  have HVD := Lib.hid hvd
  have S2 := Lib.hid (show ∀ V : World, (Instr.sliceAt 30 (.slice aQ Q.length cQ) (some (.int .i64 (Q.length : Nat))) none none).run Try.prog V = .ok vd V from fun V => hvd ▸ run_sub_fromN (P := Try.prog) (t := 30) (e := TO) (s := 2) Try.underlying30 (fun _ => by kernel_rfl) _ _ _ Q.length hm V)
  have ha0 : Below w.heap.size w (w.alloc (.cells #[] TO)) := (Below.refl _ _).alloc (Nat.le_refl _) _
  have HK := Lib.hid (show FK w0 X (rO (.slice (some ⟨w.heap.size, 0, none⟩) 0 0) [] :: dRows r N vF (.slice aQ Q.length cQ) G Q l) (w.alloc (.cells #[] TO)) from FK.fresh h ha0 (World.ownsRow_made w (e := TO) (base := 0) (size := 2) #[] 0 (Nat.zero_le _) (Nat.zero_le _) (by simp)) (fun k hk => by simp [rO, Value.ownBlock] at hk; omega))
  have HS := Lib.hid ((dRows_q HK.out).take hm)
  have c2 := FK.cell h (j := 2) rfl
  have ca := FK.cell HK.out.swap (j := 2) rfl
  have HLEN := Lib.hid (show ([] : Obs).length + (Q.take Q.length).length ≤ 100000 by rw [List.length_take]; simp <;> omega)
  have HLEN2 := Lib.hid (show ([] : Obs).length + (Q.drop Q.length).length ≤ 100000 by rw [List.length_drop]; simp <;> omega)

  clear h e ha0 hcap hvd hm hq
  go_enter Try.func18, Try.ntmps18
  go_wp2_with (first
    | (refine wpList_slice_run rfl 30 _ _ _ _ rfl _ (S1.out _) ?_)
    | (refine wpList_slice_run rfl 30 _ _ _ _ rfl _ (S2.out _) ?_)
    | (at_builtin; refine wpList_fkOS rfl _ _ rfl HK.out HLEN.out HS.out rfl rfl ?_
       intro v1 w1 hK1 _
       rw [List.nil_append] at hK1
       have HK2 := Lib.hid (show FK w0 X (rO (.slice (some ⟨w1.heap.size, 0, none⟩) 0 0) [] :: _) (w1.alloc (.cells #[] TO)) from FK.fresh hK1 ((Below.refl _ _).alloc (Nat.le_refl _) _) (World.ownsRow_made w1 (e := TO) (base := 0) (size := 2) #[] 0 (Nat.zero_le _) (Nat.zero_le _) (by simp)) (fun k hk => by simp [rO, Value.ownBlock] at hk; omega))
       have d2 := FK.cell HK2.out.third (j := 2) rfl
       have HS2 := Lib.hid (show SrcO (w1.alloc (.cells #[] TO)) vd (Q.drop Q.length) by
         rw [← HVD.out]
         exact (dRows_q HK2.out.swap.drop).drop HM.out HCAP.out)
       clear hK1 HK HS c2 ca)
    | (at_builtin; refine wpList_fkOS rfl _ _ rfl HK2.out HLEN2.out HS2.out rfl rfl ?_
       intro v2 w2 hK3 _
       rw [List.nil_append] at hK3
       obtain ⟨a2, q2, e2⟩ := FK.lenO hK3
       subst e2
       have HK4 := Lib.hid hK3.third
       have d3 := FK.cell HK4.out (j := 2) rfl
       have f3 := FK.frz HK4.out (j := 2) rfl
       clear hK3 HK2 HS2 d2)
    | fail)
  have HF := Lib.hid (FK.put HK4.out 2 (.slice a2 (Q.drop Q.length).length q2))
  go_ret
  have h9 := (HF.out.perm perm_dr).drop
  rw [List.drop_length, List.take_length] at h9
  exact ⟨v1, rfl, vF, .slice a2 0 q2, G, HG.out, h9⟩
set_option maxRecDepth 100000 in
set_option maxHeartbeats 8000000 in
theorem rdrain_some {k : Nat} (hk0 : k ≤ Q.length) (h : RD w0 X r N F Q l w) (hq : Q.length ≤ 10000) : Calls Try.prog 18 #[.pointer (some ⟨r, 0, none⟩), .int .i64 k] w fun e w' => ∃ v, e = .returned v ∧ RD w0 X r N F (Q.drop k) (rO v (Q.take k) :: l) w' := by
  obtain ⟨vF, vQ, G, e, h⟩ := h
  have HG := Lib.hid e
  obtain ⟨aQ, cQ, eQ⟩ := FK.lenO h.third
  subst eQ
  have HQ := Lib.hid hq
  have hm : k ≤ Q.length := by omega
  have HM := Lib.hid hm
  have hcap := ownsCap h.third
  have HCAP := Lib.hid hcap
  have S1 := Lib.hid (show ∀ V : World, (Instr.sliceAt 30 (.slice aQ Q.length cQ) none (some (.int .i64 (k : Nat))) none).run Try.prog V = .ok (.slice aQ k cQ) V from fun V => run_sub_toN (P := Try.prog) (t := 30) (e := TO) (s := 2) Try.underlying30 (fun _ => by kernel_rfl) _ _ _ k (Nat.le_trans hm hcap) V)
  obtain ⟨vd, hvd⟩ : ∃ vd, Value.slice (if cQ = k then aQ else aQ.map fun x => x.add (k * 2)) (Q.length - k) (cQ - k) = vd := ⟨_, rfl⟩
  have HVD := Lib.hid hvd
  have S2 := Lib.hid (show ∀ V : World, (Instr.sliceAt 30 (.slice aQ Q.length cQ) (some (.int .i64 (k : Nat))) none none).run Try.prog V = .ok vd V from fun V => hvd ▸ run_sub_fromN (P := Try.prog) (t := 30) (e := TO) (s := 2) Try.underlying30 (fun _ => by kernel_rfl) _ _ _ k hm V)
  have ha0 : Below w.heap.size w (w.alloc (.cells #[] TO)) := (Below.refl _ _).alloc (Nat.le_refl _) _
  have HK := Lib.hid (show FK w0 X (rO (.slice (some ⟨w.heap.size, 0, none⟩) 0 0) [] :: dRows r N vF (.slice aQ Q.length cQ) G Q l) (w.alloc (.cells #[] TO)) from FK.fresh h ha0 (World.ownsRow_made w (e := TO) (base := 0) (size := 2) #[] 0 (Nat.zero_le _) (Nat.zero_le _) (by simp)) (fun k hk => by simp [rO, Value.ownBlock] at hk; omega))
  have HS := Lib.hid ((dRows_q HK.out).take hm)
  have c2 := FK.cell h (j := 2) rfl
  have ca := FK.cell HK.out.swap (j := 2) rfl
  have HLEN := Lib.hid (show ([] : Obs).length + (Q.take k).length ≤ 100000 by rw [List.length_take]; simp <;> omega)
  have HLEN2 := Lib.hid (show ([] : Obs).length + (Q.drop k).length ≤ 100000 by rw [List.length_drop]; simp <;> omega)
  have hk : ¬ ((k : Int) < 0) := by omega
  have hk2 : ¬ ((Q.length : Int) < (k : Int)) := by omega
  clear h e ha0 hcap hvd hm hq
  go_enter Try.func18, Try.ntmps18
  go_wp2_with (first
    | (refine wpList_slice_run rfl 30 _ _ _ _ rfl _ (S1.out _) ?_)
    | (refine wpList_slice_run rfl 30 _ _ _ _ rfl _ (S2.out _) ?_)
    | (at_builtin; refine wpList_fkOS rfl _ _ rfl HK.out HLEN.out HS.out rfl rfl ?_
       intro v1 w1 hK1 _
       rw [List.nil_append] at hK1
       have HK2 := Lib.hid (show FK w0 X (rO (.slice (some ⟨w1.heap.size, 0, none⟩) 0 0) [] :: _) (w1.alloc (.cells #[] TO)) from FK.fresh hK1 ((Below.refl _ _).alloc (Nat.le_refl _) _) (World.ownsRow_made w1 (e := TO) (base := 0) (size := 2) #[] 0 (Nat.zero_le _) (Nat.zero_le _) (by simp)) (fun k hk => by simp [rO, Value.ownBlock] at hk; omega))
       have d2 := FK.cell HK2.out.third (j := 2) rfl
       have HS2 := Lib.hid (show SrcO (w1.alloc (.cells #[] TO)) vd (Q.drop k) by
         rw [← HVD.out]
         exact (dRows_q HK2.out.swap.drop).drop HM.out HCAP.out)
       clear hK1 HK HS c2 ca)
    | (at_builtin; refine wpList_fkOS rfl _ _ rfl HK2.out HLEN2.out HS2.out rfl rfl ?_
       intro v2 w2 hK3 _
       rw [List.nil_append] at hK3
       obtain ⟨a2, q2, e2⟩ := FK.lenO hK3
       subst e2
       have HK4 := Lib.hid hK3.third
       have d3 := FK.cell HK4.out (j := 2) rfl
       have f3 := FK.frz HK4.out (j := 2) rfl
       clear hK3 HK2 HS2 d2)
    | fail)
  have HF := Lib.hid (FK.put HK4.out 2 (.slice a2 (Q.drop k).length q2))
  go_ret
  have h9 := (HF.out.perm perm_dr).drop
  rw [List.length_drop] at h9
  exact ⟨v1, rfl, vF, .slice a2 (Q.length - k) q2, G, HG.out, h9⟩
/-- Drain. -/
theorem rdrain_any (n : Int) (h : RD w0 X r N F Q l w) (hq : Q.length ≤ 10000) : Calls Try.prog 18 #[.pointer (some ⟨r, 0, none⟩), .int .i64 n] w fun e w' => ∃ v, e = .returned v ∧ RD w0 X r N F (Q.drop (dpK n Q)) (rO v (Q.take (dpK n Q)) :: l) w' := by
  by_cases h1 : n < 0
  · rw [show dpK n Q = 0 by unfold dpK; omega]
    exact rdrain_neg h1 h hq
  by_cases h2 : (Q.length : Int) < n
  · rw [show dpK n Q = Q.length by unfold dpK; omega]
    exact rdrain_all h1 h2 h hq
  obtain ⟨k, rfl⟩ := Int.eq_ofNat_of_zero_le (show 0 ≤ n by omega)
  rw [show dpK (k : Int) Q = k by unfold dpK; omega]
  exact rdrain_some (by omega) h hq
end
end Go.Proofs.Ytagnipkannogoaa
