/-
  depot's document as it lies (all of it rows of one list), and its Get.
-/
import Derived.Test.YtagnipkannogoaaFkSl
import Derived.Test.YtagnipkannogoaaDpOk
namespace Go.Proofs.Ytagnipkannogoaa
open Go.RowKit Go
/-- The rows of the document's depot at r: the struct, the row of magazines, the queue, each magazine. -/
def dRows (r N : Nat) (vF vQ : Value) (G : List (Value × Obs)) (Q : Obs) (l : List Rw) : List Rw :=
  rC r 32 [.int .i64 N, vF, vQ] :: rS vF (G.map Prod.fst) :: rO vQ Q :: ((G.map fun g => rO g.1 g.2) ++ l)
def RD (w0 : World) (X : Thg) (r N : Nat) (F : List Obs) (Q : Obs) (l : List Rw) (w : World) : Prop :=
  ∃ vF vQ G, G.map Prod.snd = F ∧ FK w0 X (dRows r N vF vQ G Q l) w
section
variable {w0 w w' : World} {X : Thg} {r N : Nat} {F : List Obs} {Q m : Obs} {l l2 : List Rw} {vF vQ : Value} {G : List (Value × Obs)}
theorem dRows_sls (h : FK w0 X (dRows r N vF vQ G Q l) w) : Sls (G.map Prod.fst) := fun u hu => by
  obtain ⟨g, hg, rfl⟩ := List.mem_map.1 hu
  obtain ⟨a, c, e⟩ := owns_lenS (h.row (rO g.1 g.2) (by
    unfold dRows
    simp only [List.mem_cons, List.mem_append, List.mem_map]
    exact .inr (.inr (.inr (.inl ⟨g, hg, rfl⟩)))))
  exact ⟨a, _, c, e⟩
theorem RD.bel (h : RD w0 X r N F Q l w) : Below w0.heap.size w0 w := by
  obtain ⟨vF, vQ, G, e, h⟩ := h
  exact h.bel
theorem RD.later (h : RD w0 X r N F Q l w) (hb : Below w.heap.size w w') : RD w0 X r N F Q l w' := by
  obtain ⟨vF, vQ, G, e, h⟩ := h
  exact ⟨vF, vQ, G, e, h.later hb⟩
set_option maxRecDepth 100000 in
set_option maxHeartbeats 4000000 in
theorem rget_any (h : RD w0 X r N (F ++ [m]) Q l w) (hF : F.length ≤ 1000) : Calls Try.prog 15 #[.pointer (some ⟨r, 0, none⟩)] w fun e w' => ∃ v, e = .returned (.tuple #[v, .bool true]) ∧ RD w0 X r N F Q (rO v m :: l) w' := by
  obtain ⟨vF, vQ, G, e, h⟩ := h
  obtain ⟨G2, ⟨v, m2⟩, rfl⟩ : ∃ G2 g, G = G2 ++ [g] := by
    rcases List.eq_nil_or_concat G with h0 | ⟨G2, g, h0⟩
    · rw [h0] at e
      simp at e
    · exact ⟨G2, g, by rw [h0, List.concat_eq_append]⟩
  rw [List.map_append, List.map_cons, List.map_nil] at e
  obtain ⟨e1, e2⟩ := List.append_inj' e rfl
  injection e2 with e2 _
  dsimp only at e2
  subst e2
  obtain ⟨n, hn⟩ : ∃ n, G2.length = n := ⟨_, rfl⟩
  have hlen : ((G2 ++ [(v, m2)]).map Prod.fst).length = n + 1 := by simp [hn]
  have hS := h.swap
  obtain ⟨aF, cF, eF⟩ := FK.lenS hS
  rw [hlen] at eF
  subst eF
  obtain ⟨g, c, hgv, d0⟩ := FK.atS hS (k := n) (by rw [hlen]; omega)
  rw [hlen] at hgv
  injection hgv with hgv _ hgc
  subst hgv
  subst hgc
  have hv : ((G2 ++ [(v, m2)]).map Prod.fst)[n]'(by rw [hlen]; omega) = v := by
    simp [← hn]
  rw [hv] at d0
  obtain ⟨av, nv, cv, ev⟩ := dRows_sls h v (by simp)
  subst ev
  have c1 := FK.cell h (j := 1) rfl
  have f1 := FK.frz h (j := 1) rfl
  have hcap : n ≤ cF := by
    have h1 := hS.row _ List.mem_cons_self
    obtain ⟨_, ⟨e9, _⟩ | ⟨g9, cap, cur, e9, _, _, h9, _⟩⟩ := h1
    · cases e9
    · injection e9 with _ _ e9
      have h8 : ((G2 ++ [(Value.slice av nv cv, m2)]).map Prod.fst).length ≤ cap := h9
      rw [hlen] at h8
      omega
  have S1 := Lib.hid (show ∀ V : World, (Instr.sliceAt 29 (.slice (some ⟨g, 0, none⟩) (n + 1) cF) none (some (.int .i64 n)) none).run Try.prog V = .ok (.slice (some ⟨g, 0, none⟩) n cF) V from fun V => run_sub_toN (P := Try.prog) (t := 29) (e := 30) (s := 1) Try.underlying29 (fun _ => by kernel_rfl) _ _ _ n hcap V)
  have HF := Lib.hid (show RD w0 X r N F Q (rO (.slice av nv cv) m2 :: l) (w.setCell ⟨r, 1, none⟩ (.slice (some ⟨g, 0, none⟩) n cF)) from by
    have h2 := FK.put h 1 (.slice (some ⟨g, 0, none⟩) n cF)
    have h3 := h2.swap
    rw [← hlen] at h3
    have h4 := FK.cutS h3 (k := n) (by rw [hlen]; omega)
    have e4 : ((G2 ++ [(Value.slice av nv cv, m2)]).map Prod.fst).take n = G2.map Prod.fst := by
      rw [List.map_append, List.take_append_of_le_length (by simp [hn]), List.take_of_length_le (by simp [hn])]
    rw [e4] at h4
    refine ⟨.slice (some ⟨g, 0, none⟩) n cF, vQ, G2, e1, ?_⟩
    have h5 := h4.swap
    have e5 : ((G2 ++ [(Value.slice av nv cv, m2)]).map fun g => rO g.1 g.2) ++ l = (G2.map fun g => rO g.1 g.2) ++ (rO (.slice av nv cv) m2 :: l) := by simp
    rw [e5] at h5
    exact h5)
  have hn1000 : n ≤ 1000 := by
    have := congrArg List.length e1
    rw [List.length_map] at this
    omega
  clear h hS e e1 hv hlen hcap
  go_enter Try.func15, Try.ntmps15
  go_wp2_with (first | (refine wpList_slice_run rfl 29 _ _ _ _ rfl _ (S1.out _) ?_) | fail)
  go_ret2
  exact ⟨_, rfl, HF.out⟩
set_option maxRecDepth 100000 in
set_option maxHeartbeats 4000000 in
theorem rget_no (h : RD w0 X r N [] Q l w) : Calls Try.prog 15 #[.pointer (some ⟨r, 0, none⟩)] w fun e w' => e = .returned (.tuple #[.slice none 0 0, .bool false]) ∧ w = w' := by
  obtain ⟨vF, vQ, G, e, h⟩ := h
  obtain rfl : G = [] := List.map_eq_nil_iff.1 e
  obtain ⟨aF, cF, eF⟩ := FK.lenS h.swap
  rw [show (([] : List (Value × Obs)).map Prod.fst).length = 0 from rfl] at eF
  subst eF
  have c1 := FK.cell h (j := 1) rfl
  clear h e
  go_enter Try.func15, Try.ntmps15
  go_wp2_with (fail)
  go_ret2
  exact ⟨rfl, rfl⟩
end
end Go.Proofs.Ytagnipkannogoaa
