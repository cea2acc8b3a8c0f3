/-
  depot's document: All, and that nothing that lay there turns.
-/
import Derived.Test.YtagnipkannogoaaDpRAll
import Derived.Test.YtagnipkannogoaaDpRDrain
import Derived.Test.YtagnipkannogoaaDpRNew
namespace Go.Proofs.Ytagnipkannogoaa
open Go.RowKit Go
section
variable {w0 w w' : World} {X : Thg} {l : List Rw} {v : Value}
variable {ops : Array Oper} {rest : List Oper} {o : Oper} {a : Act} {Q : Exit → Act → World → Prop}
theorem wpList_fkOSw (hgd : o.guard = none) (s x : Operand) (ho : o.op = .call { callee := .builtin .append, args := #[s, x], argTypes := #[30, 30] })
    {A B : Obs} {v2 : Value} (h : FK w0 X (rO v A :: l) w) (hn : A.length + B.length ≤ 100000) (hB : SrcO w v2 B) (hs : a.eval s = v) (hx : a.eval x = v2)
    (hK : ∀ v' w', FK w0 X (rO v' (A ++ B) :: l) w' → Only (fun k => v.ownBlock = some k) w w' → (v'.ownBlock = v.ownBlock ∨ ∀ k, v'.ownBlock = some k → w.heap.size ≤ k) → wpList Try.prog ops Q rest (a.put o.dst v') w') : wpList Try.prog ops Q (o :: rest) a w := by
  obtain ⟨i0, hi, hz0, hz1, hz2⟩ := info_parts infoObj
  obtain ⟨a2, c, e, hsrc⟩ := hB
  by_cases hp : 0 < B.length
  · obtain ⟨ad, rfl, hsr⟩ := hsrc hp
    refine wpList_append_wat _ hgd s x 30 ho 0 38 i0 _ 2 16 Try.underlying30 hi hz0 hz1 hz2 rfl (by decide) v A.length (recV encO A) (h.row _ List.mem_cons_self) (Nat.zero_le _) hs ad B.length c hp (recV encO B) (hx.trans e) (recV_len encO_len B) hsr (recV_one encO_one B) (by unfold maxLen; omega) (by omega) ?_
    intro v' w' hown ho hwh
    refine hK v' w' (h.grow ho ?_ hwh) ho hwh
    show w'.ownsRow 0 TO 2 v' (A ++ B).length (recV encO (A ++ B))
    rw [List.length_append, recV_append]
    exact hown
  · obtain rfl : B = [] := List.eq_nil_of_length_eq_zero (by omega)
    have hown : w.ownsRow 0 TO 2 v A.length (recV encO A) := h.row _ List.mem_cons_self
    have hr : (Builtin.append_ #[30, 30] o.type #[v, .slice a2 0 c]).run Try.prog w = .ok v w := run_append_none w 30 o.type 38 i0 Try.underlying30 hi hown a2 c
    refine wpList_plain hgd fun _ hK2 => ?_
    unfold Oper.wp execOp
    simp only [ho, resolve, invoke, builtin, Sem.run_bind, Sem.run_pure, Result.andThen_ok, List.map_toArray, List.map_cons, List.map_nil, hs, hx, e, List.length_nil, hr]
    exact hK2 _ _ (hK v w (by rw [List.append_nil]; exact h) (Only.refl _ _) (.inl rfl))
end
theorem bel_grow {w wr w2 : World} {u v2 : Value} (h : Below w.heap.size w wr ∧ ∀ j, u.ownBlock = some j → w.heap.size ≤ j) (ho : Only (fun k => u.ownBlock = some k) wr w2) (hwh : v2.ownBlock = u.ownBlock ∨ ∀ k, v2.ownBlock = some k → wr.heap.size ≤ k) :
    Below w.heap.size w w2 ∧ ∀ j, v2.ownBlock = some j → w.heap.size ≤ j :=
  ⟨ho.below h.1 h.1.size h.2, fun j hj => hwh.elim (fun e => h.2 j (by rw [← e]; exact hj)) (fun e => Nat.le_trans h.1.size (e j hj))⟩
section
variable {w0 w w' : World} {X : Thg} {r N k : Nat} {F : List Obs} {Q A : Obs} {l l2 : List Rw} {u vF vQ : Value} {G : List (Value × Obs)}
set_option maxRecDepth 100000 in
set_option maxHeartbeats 8000000 in
theorem rall_bel (h : RD w0 X r N F Q l w) (hb : (dpAll F Q).length ≤ 10000) (hF : F.length ≤ 1000) : Calls Try.prog 20 #[.pointer (some ⟨r, 0, none⟩)] w fun e w' => ∃ v, e = .returned v ∧ RD w0 X r N F Q (rO v (dpAll F Q) :: l) w' ∧ Below w.heap.size w w' := by
  obtain ⟨vF, vQ, G, e, h⟩ := h
  have HG := Lib.hid e
  have hb1 : F.flatten.length + Q.length ≤ 10000 := by
    have := hb
    unfold dpAll at this
    rw [List.length_append] at this
    exact this
  have HB := Lib.hid hb1
  have hGF : G.length = F.length := by rw [← e, List.length_map]
  have HGF := Lib.hid hGF
  obtain ⟨n, hn⟩ : ∃ n, F.length = n := ⟨_, rfl⟩
  have HN := Lib.hid hn
  obtain ⟨aF, cF, eF⟩ := FK.lenS h.swap
  rw [List.length_map, hGF, hn] at eF
  obtain ⟨aQ, cQ, eQ⟩ := FK.lenO h.third
  subst eF
  subst eQ
  have HK := Lib.hid h.nilO
  have hn1 : n ≤ 1000 := by omega
  clear h e hb hb1 hGF hF hn
  go_enter Try.func20, Try.ntmps20
  go_wp2_with (fail)
  go_loopw [3, 4] (fun v i wr => ∃ (k : Nat) (u : Value), k ≤ n ∧ v = u ∧ i = .int .i64 k ∧ Hid (FK w0 X (rO u (F.take k).flatten :: dRows r N (.slice aF n cF) (.slice aQ Q.length cQ) G Q l) wr) ∧ Hid (Below w.heap.size w wr ∧ ∀ j, u.ownBlock = some j → w.heap.size ≤ j)) (fun _ i _ => n - (intOf i).toNat)
  case atStart => exact ⟨0, _, Nat.zero_le _, rfl, rfl, HK, Lib.hid ⟨Below.refl _ _, fun j hj => by cases hj⟩⟩
  case round =>
    clear HK
    obtain ⟨k, u, hk, rfl, rfl, HK, HBL⟩ := hrel
    have c1 := FK.cell HK.out.swap (j := 1) rfl
    have c2 := FK.cell HK.out.swap (j := 2) rfl
    by_cases hlt : k < n
    · have hltI : (k : Int) < (n : Int) := by omega
      have HLT := Lib.hid hlt
      have hkF : k < F.length := by rw [HN.out]; exact hlt
      obtain ⟨g, c, a1, n1, q1, e1, d0, hs⟩ := dRows_at HK.out (k := k) (by rw [HGF.out]; exact hkF)
      injection e1 with e1 _ e2
      subst e1
      subst e2
      have hgk : G[k]'(by rw [HGF.out]; exact hkF) = ((G[k]'(by rw [HGF.out]; exact hkF)).1, F[k]) := by
        have h7 : (G.map Prod.snd)[k]? = F[k]? := by rw [HG.out]
        rw [List.getElem?_map, List.getElem?_eq_getElem (by rw [HGF.out]; exact hkF), List.getElem?_eq_getElem hkF] at h7
        injection h7 with h7
        rw [← h7]
      rw [hgk] at hs
      dsimp only at hs
      have HS := Lib.hid hs
      have HFL := Lib.hid (flat_snoc hkF)
      have HLE := Lib.hid (show (F.take k).flatten.length + F[k].length ≤ 100000 by
        have h8 := take_flat F (k + 1)
        rw [flat_snoc hkF, List.length_append] at h8
        have := HB.out
        omega)
      clear hs hgk hlt
      go_wp2_with (first
        | (at_builtin; refine wpList_fkOSw rfl _ _ rfl HK.out HLE.out HS.out rfl rfl ?_
           intro v2 w2 hK2 ho2 hwh2
           rw [← HFL.out] at hK2
           have HBL2 := Lib.hid (bel_grow HBL.out ho2 hwh2)
           have HK2 := Lib.hid hK2
           clear hK2 ho2 hwh2)
        | fail)
      exact ⟨⟨k + 1, _, HLT.out, rfl, by go_num, HK2, HBL2⟩, by simp [intOf]; omega⟩
    · obtain rfl : k = n := by omega
      have HS := Lib.hid (dRows_q HK.out)
      have hK0 := HK.out
      rw [List.take_of_length_le (by rw [HN.out]; omega)] at hK0
      have HK0 := Lib.hid hK0
      clear hK0
      go_wp2_with (first
        | (at_builtin; refine wpList_fkOSw rfl _ _ rfl HK0.out (by have := HB.out; omega) HS.out rfl rfl ?_
           intro v2 w2 hK2 ho2 hwh2
           have HBL2 := Lib.hid (ho2.below HBL.out.1 HBL.out.1.size (fun j hj => HBL.out.2 j hj))
           have HK2 := Lib.hid hK2
           clear hK2 ho2 hwh2)
        | fail)
      go_ret
      refine ⟨v2, rfl, ⟨.slice aF k cF, .slice aQ Q.length cQ, G, HG.out, ?_⟩, HBL2.out⟩
      refine HK2.out.perm ?_
      unfold dRows dpAll
      exact perm_out
end
end Go.Proofs.Ytagnipkannogoaa
