/-
  depot's document: Put.
-/
import Derived.Test.YtagnipkannogoaaDpRef
namespace Go.Proofs.Ytagnipkannogoaa
open Go.RowKit Go
section
variable {w0 w w' : World} {X : Thg} {r N : Nat} {F : List Obs} {Q m : Obs} {l l2 : List Rw} {vF vQ : Value} {G : List (Value × Obs)}
theorem len_tD {n m : Nat} (h : n = m) : ((n : Int) == (m : Int)) = true := by subst h; simp
theorem len_fD {n m : Nat} (h : ¬ n = m) : ((n : Int) == (m : Int)) = false := by simp; omega
theorem perm_put {A B C D E : Rw} {I l : List Rw} : (A :: B :: C :: D :: E :: (I ++ l)).Perm (D :: C :: A :: E :: (I ++ (B :: l))) := by
  have h1 : (I ++ B :: l).Perm (B :: (I ++ l)) := List.perm_middle
  have h2 : (D :: C :: A :: E :: (I ++ (B :: l))).Perm (D :: C :: A :: E :: B :: (I ++ l)) := ((((h1.cons E).cons A).cons C).cons D)
  refine List.Perm.trans ?_ h2.symm
  have h3 : [A, B, C, D, E].Perm [D, C, A, E, B] := by
    refine (List.Perm.trans (l₂ := [D, A, B, C, E]) ?_ ?_)
    · exact List.perm_append_comm (l₁ := [A, B, C]) (l₂ := [D]) |>.append_right [E]
    · refine List.Perm.cons D ?_
      refine (List.Perm.trans (l₂ := [C, A, B, E]) ?_ ?_)
      · exact List.perm_append_comm (l₁ := [A, B]) (l₂ := [C]) |>.append_right [E]
      · exact (List.Perm.swap _ _ _).cons A |>.cons C
  exact h3.append_right (I ++ l)
set_option maxRecDepth 100000 in
set_option maxHeartbeats 8000000 in
theorem rput_any {v : Value} (h : RD w0 X r N F Q l w) (hs : SrcO w0 v m) (hm : m.length ≤ 1000) (hF : F.length ≤ 64) : Calls Try.prog 13 #[.pointer (some ⟨r, 0, none⟩), v] w fun e w' => e = .returned (.int .i64 (dpPut N m F).1) ∧ RD w0 X r N (dpPut N m F).2 Q l w' := by
  have HRD := Lib.hid h
  obtain ⟨vF, vQ, G, e, h⟩ := h
  have HS := Lib.hid hs
  obtain ⟨am, cm, rfl, _⟩ := hs
  obtain ⟨aF, cF, eF⟩ := FK.lenS h.swap
  have hGl : (G.map Prod.fst).length = F.length := by rw [← e, List.length_map, List.length_map]
  rw [hGl] at eF
  have c0 := FK.cell h (j := 0) rfl
  have c1 := FK.cell h (j := 1) rfl
  rw [eF] at c1
  by_cases h1 : m.length = N
  · have e1 : ((m.length : Int) != (N : Int)) = false := by rw [h1]; simp
    have e1b := len_tD h1
    by_cases h2 : F.length < 64
    · have e2 : ¬ ((64 : Int) ≤ (F.length : Int)) := by omega
      have HP := Lib.hid (show dpPut N m F = (0, F ++ [m]) by unfold dpPut; rw [if_pos h1, if_pos h2])
      have hsl := dRows_sls h
      obtain ⟨vs, hvs⟩ : ∃ vs, G.map Prod.fst = vs := ⟨_, rfl⟩
      have HSL := Lib.hid (show Sls vs by rw [← hvs]; exact hsl)
      have HVL := Lib.hid (show vs.length ≤ 64 by rw [← hvs, hGl]; omega)
      have HE := Lib.hid e
      have HVS := Lib.hid hvs
      have ha0 : Below w.heap.size w (w.alloc (.cells #[] 30)) := (Below.refl _ _).alloc (Nat.le_refl _) _
      have HK := Lib.hid (show FK w0 X (rS (.slice (some ⟨w.heap.size, 0, none⟩) 0 0) [] :: rS vF vs :: rC r 32 [.int .i64 N, vF, vQ] :: rO vQ Q :: ((G.map fun g => rO g.1 g.2) ++ l)) (w.alloc (.cells #[] 30)) from by
        refine FK.fresh ?_ ha0 (World.ownsRow_made w (e := 30) (base := 0) (size := 1) #[] 0 (Nat.zero_le _) (Nat.zero_le _) (by simp)) (fun k hk => by simp [rS, Value.ownBlock] at hk; omega)
        have h3 := h.swap
        rw [hvs] at h3
        exact h3)
      have ca : (w.alloc (.cells #[] 30)).cell? ⟨r, 1, none⟩ = some (.slice aF F.length cF) := by rw [ha0.cell (World.block_lt_of_cell? _ _ c1)]; exact c1
      have HBB := Lib.hid ha0
      have hm1 : m.length ≤ 1000 := hm
      subst eF
      clear h hsl hvs e ha0 h1 h2 hGl e1
      go_enter Try.func13, Try.ntmps13
      go_wp2_with (first
        | (at_builtin; refine wpList_fkSS rfl _ _ rfl HK.out (by have := HVL.out; simp; omega) HSL.out rfl rfl ?_
           intro v1 w1 hK1
           rw [List.nil_append] at hK1
           obtain ⟨a1, q1, e1⟩ := FK.lenS hK1
           subst e1
           have HK2 := Lib.hid (show FK w0 X (rO (.slice (some ⟨w1.heap.size, 0, none⟩) 0 0) [] :: _) (w1.alloc (.cells #[] TO)) from FK.fresh hK1 ((Below.refl _ _).alloc (Nat.le_refl _) _) (World.ownsRow_made w1 (e := TO) (base := 0) (size := 2) #[] 0 (Nat.zero_le _) (Nat.zero_le _) (by simp)) (fun k hk => by simp [rO, Value.ownBlock] at hk; omega))
           clear hK1 HK)
        | (at_builtin; refine wpList_fkOS rfl _ _ rfl HK2.out (by simp; omega) (HS.out.later HK2.out.bel) rfl rfl ?_
           intro v2 w2 hK2 _
           rw [List.nil_append] at hK2
           obtain ⟨a2, q2, e2'⟩ := FK.lenO hK2
           subst e2'
           have HK3 := Lib.hid hK2.swap
           clear hK2 HK2)
        | (at_builtin; refine wpList_fkS rfl _ _ rfl HK3.out (by have := HVL.out; omega) (.slice a2 m.length q2) ⟨_, _, _, rfl⟩ rfl rfl ?_
           intro v3 w3 hK3
           obtain ⟨a3, q3, e3⟩ := FK.lenS hK3
           subst e3
           have HK4 := Lib.hid (hK3.perm perm_put)
           have d1 := FK.cell HK4.out (j := 1) rfl
           have f1 := FK.frz HK4.out (j := 1) rfl
           clear hK3 HK3 ca)
        | fail)
      have HF := Lib.hid (FK.put HK4.out 1 (Value.slice a3 (vs ++ [Value.slice a2 m.length q2]).length q3))
      have HRES := Lib.hid (show RD w0 X r N (F ++ [m]) Q l _ from ⟨_, vQ, G ++ [(.slice a2 m.length q2, m)], by rw [List.map_append, HE.out]; rfl, by
        have h9 := (FK.drop HF.out.swap)
        unfold dRows
        rw [List.map_append, HVS.out, List.map_append, List.append_assoc]
        exact h9⟩)
      rw [HP.out]
      go_ret
      have hr := HRES.out
      rw [List.length_append] at hr
      exact ⟨rfl, hr⟩
    · have e2 : (64 : Int) ≤ (F.length : Int) := by omega
      have HP := Lib.hid (show dpPut N m F = (9, F) by unfold dpPut; rw [if_pos h1, if_neg h2])
      clear h e h1 h2 hGl e1 eF
      go_enter Try.func13, Try.ntmps13
      go_wp2_with (fail)
      go_ret
      rw [HP.out]
      exact ⟨rfl, HRD.out⟩
  · have e1 : ((m.length : Int) == (N : Int)) = false := len_fD h1
    have HP := Lib.hid (show dpPut N m F = (2, F) by unfold dpPut; rw [if_neg h1])
    clear h e h1 hGl eF c1
    go_enter Try.func13, Try.ntmps13
    go_wp2_with (fail)
    go_ret
    rw [HP.out]
    exact ⟨rfl, HRD.out⟩
end
end Go.Proofs.Ytagnipkannogoaa
