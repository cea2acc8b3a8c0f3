/-
  depot's document: All.
-/
import Derived.Test.YtagnipkannogoaaDpRPut
namespace Go.Proofs.Ytagnipkannogoaa
open Go.RowKit Go
section
variable {w0 w w' : World} {X : Thg} {r N k : Nat} {F : List Obs} {Q A : Obs} {l l2 : List Rw} {u vF vQ : Value} {G : List (Value × Obs)}
theorem take_flat (L : List Obs) (k : Nat) : (L.take k).flatten.length ≤ L.flatten.length := by
  have h : ((L.take k) ++ (L.drop k)).flatten.length = L.flatten.length := by rw [List.take_append_drop]
  rw [List.flatten_append, List.length_append] at h
  omega
theorem flat_snoc {L : List Obs} {k : Nat} (h : k < L.length) : (L.take (k + 1)).flatten = (L.take k).flatten ++ L[k] := by
  rw [takeN_next h, List.flatten_append]
  simp
theorem dRows_at (h : FK w0 X (rO u A :: dRows r N vF vQ G Q l) w) (hk : k < G.length) : ∃ g c a n q, vF = .slice (some ⟨g, 0, none⟩) G.length c ∧ w.cell? ⟨g, k, none⟩ = some (.slice a n q) ∧ SrcO w (.slice a n q) (G[k].2) := by
  obtain ⟨g, c, e, d⟩ := FK.atS h.third (k := k) (by rw [List.length_map]; exact hk)
  have hm : rO G[k].1 G[k].2 ∈ rO u A :: dRows r N vF vQ G Q l := by
    unfold dRows
    simp only [List.mem_cons, List.mem_append, List.mem_map]
    exact .inr (.inr (.inr (.inr (.inl ⟨G[k], List.getElem_mem hk, rfl⟩))))
  obtain ⟨a, c', e2⟩ := owns_lenS (h.row _ hm)
  refine ⟨g, c, a, G[k].2.length, c', by rw [e, List.length_map], ?_, ?_⟩
  · rw [d, List.getElem_map]
    exact congrArg some e2
  · have h9 := SrcO.of_owns (h.row _ hm)
    have e3 : G[k].1 = .slice a G[k].2.length c' := e2
    rw [← e3]
    exact h9
theorem perm_out {O a b c : Rw} {I l : List Rw} : (O :: a :: b :: c :: (I ++ l)).Perm (a :: b :: c :: (I ++ (O :: l))) :=
  List.Perm.trans (show (O :: a :: b :: c :: (I ++ l)).Perm (a :: b :: c :: O :: (I ++ l)) from (List.Perm.swap a O _).trans (((List.Perm.swap b O _).trans ((List.Perm.swap c O _).cons b)).cons a)) ((((List.perm_middle (a := O) (l₁ := I) (l₂ := l)).symm.cons c).cons b).cons a)
theorem dRows_q (h : FK w0 X (rO u A :: dRows r N vF vQ G Q l) w) : SrcO w vQ Q := SrcO.of_owns (h.row (rO vQ Q) (by unfold dRows; simp))
set_option maxRecDepth 100000 in
set_option maxHeartbeats 8000000 in
theorem rall_any (h : RD w0 X r N F Q l w) (hb : (dpAll F Q).length ≤ 10000) (hF : F.length ≤ 1000) : Calls Try.prog 20 #[.pointer (some ⟨r, 0, none⟩)] w fun e w' => ∃ v, e = .returned v ∧ RD w0 X r N F Q (rO v (dpAll F Q) :: l) w' := by
  obtain ⟨vF, vQ, G, e, h⟩ := h
  have HG := Lib.hid e
  have hb1 : F.flatten.length + Q.length ≤ 10000 := by
    have := hb
    unfold dpAll at this
    rw [List.length_append] at this
    exact this
  have HB := Lib.hid hb1
  have hGF : G.length = F.length := by rw [← e, List.length_map]
  have HGF := Lib.hid hGF
  obtain ⟨n, hn⟩ : ∃ n, F.length = n := ⟨_, rfl⟩
  have HN := Lib.hid hn
  obtain ⟨aF, cF, eF⟩ := FK.lenS h.swap
  rw [List.length_map, hGF, hn] at eF
  obtain ⟨aQ, cQ, eQ⟩ := FK.lenO h.third
  subst eF
  subst eQ
  have HK := Lib.hid h.nilO
  have hn1 : n ≤ 1000 := by omega
  clear h e hb hb1 hGF hF hn
  go_enter Try.func20, Try.ntmps20
  go_wp2_with (fail)
  go_loopw [3, 4] (fun v i wr => ∃ (k : Nat) (u : Value), k ≤ n ∧ v = u ∧ i = .int .i64 k ∧ Hid (FK w0 X (rO u (F.take k).flatten :: dRows r N (.slice aF n cF) (.slice aQ Q.length cQ) G Q l) wr)) (fun _ i _ => n - (intOf i).toNat)
  case atStart => exact ⟨0, _, Nat.zero_le _, rfl, rfl, HK⟩
  case round =>
    clear HK
    obtain ⟨k, u, hk, rfl, rfl, HK⟩ := hrel
    have c1 := FK.cell HK.out.swap (j := 1) rfl
    have c2 := FK.cell HK.out.swap (j := 2) rfl
    by_cases hlt : k < n
    · have hltI : (k : Int) < (n : Int) := by omega
      have HLT := Lib.hid hlt
      have hkF : k < F.length := by rw [HN.out]; exact hlt
      obtain ⟨g, c, a1, n1, q1, e1, d0, hs⟩ := dRows_at HK.out (k := k) (by rw [HGF.out]; exact hkF)
      injection e1 with e1 _ e2
      subst e1
      subst e2
      have hgk : G[k]'(by rw [HGF.out]; exact hkF) = ((G[k]'(by rw [HGF.out]; exact hkF)).1, F[k]) := by
        have h7 : (G.map Prod.snd)[k]? = F[k]? := by rw [HG.out]
        rw [List.getElem?_map, List.getElem?_eq_getElem (by rw [HGF.out]; exact hkF), List.getElem?_eq_getElem hkF] at h7
        injection h7 with h7
        rw [← h7]
      rw [hgk] at hs
      dsimp only at hs
      have HS := Lib.hid hs
      have HFL := Lib.hid (flat_snoc hkF)
      have HLE := Lib.hid (show (F.take k).flatten.length + F[k].length ≤ 100000 by
        have h8 := take_flat F (k + 1)
        rw [flat_snoc hkF, List.length_append] at h8
        have := HB.out
        omega)
      clear hs hgk hlt
      go_wp2_with (first
        | (at_builtin; refine wpList_fkOS rfl _ _ rfl HK.out HLE.out HS.out rfl rfl ?_
           intro v2 w2 hK2 _
           rw [← HFL.out] at hK2
           have HK2 := Lib.hid hK2
           clear hK2)
        | fail)
      exact ⟨⟨k + 1, _, HLT.out, rfl, by go_num, HK2⟩, by simp [intOf]; omega⟩
    · obtain rfl : k = n := by omega
      have HS := Lib.hid (dRows_q HK.out)
      have hK0 := HK.out
      rw [List.take_of_length_le (by rw [HN.out]; omega)] at hK0
      have HK0 := Lib.hid hK0
      clear hK0
      go_wp2_with (first
        | (at_builtin; refine wpList_fkOS rfl _ _ rfl HK0.out (by have := HB.out; omega) HS.out rfl rfl ?_
           intro v2 w2 hK2 _
           have HK2 := Lib.hid hK2
           clear hK2)
        | fail)
      go_ret
      refine ⟨v2, rfl, .slice aF k cF, .slice aQ Q.length cQ, G, HG.out, ?_⟩
      refine HK2.out.perm ?_
      unfold dRows dpAll
      exact perm_out
end
end Go.Proofs.Ytagnipkannogoaa
