/-
  clock, the document's: as a thing; Touch, Add.
-/
import Derived.Test.YtndddfkebbeemaaClRef
import Derived.Test.YtndddfkebbeemaaLexApp
namespace Go.Proofs.Ytndddfkebbeemaa
open Go.RowKit Go.Shelf Go
attribute [local go_sem] Oper.semAt_some

abbrev TFr : TypeId := 56
theorem infoFr : (Try.prog.info? 56).map (fun i => (i.zero, i.size, i.bytes)) = some (some (.agg #[.int .i64 0, .bool false, .bool false]), 3, 16) := by kernel_rfl
theorem sizeFr (w : World) : (sizeOf 56).run Try.prog w = .ok 3 w := by kernel_rfl
theorem encF_one (x : Fr) : ∀ u ∈ encF x, u.oneCell' = true := by
  intro u hu
  simp [encF] at hu
  rcases hu with rfl | rfl | rfl <;> rfl
/-- The document's clock lies at r, its ring in v. -/
structure RfV (w : World) (r : Nat) (v : Value) (L : List Fr) : Prop where
  row : RowAt w r 1 (fun _ => v)
  ow : w.ownsRow 0 TFr 3 v L.length (recV encF L)
  ne : v.ownBlock ≠ some r
section
variable {w w' w1 : World} {r : Nat} {v v' : Value} {L L' : List Fr}
theorem RfV.c0 (h : RfV w r v L) : w.cell? ⟨r, 0, none⟩ = some v := h.row.cell 0 (by decide)
theorem RfV.fz (h : RfV w r v L) : w.frozen? ⟨r, 0, none⟩ = false := h.row.frozen 0
theorem RfV.ref (h : RfV w r v L) : RfC w 0 r L := ⟨⟨v, h.c0, h.ow, h.ne⟩⟩
theorem RfV.lt (h : RfV w r v L) {k : Nat} (hk : k = r ∨ v.ownBlock = some k) : k < w.heap.size := by
  rcases hk with rfl | hk
  · exact h.row.lt
  · exact (h.ow.lt k hk).2
theorem RfV.only {S : Nat → Prop} (h : RfV w r v L) (ho : Only S w w') (hs : ∀ k, k = r ∨ v.ownBlock = some k → ¬ S k) : RfV w' r v L :=
  ⟨h.row.only ho (hs r (.inl rfl)), owns_only h.ow ho (fun k hk => hs k (.inr hk)), h.ne⟩
theorem RfV.later (h : RfV w r v L) (hb : Below w.heap.size w w') : RfV w' r v L := h.only (Only.of_below (S := fun _ => False) hb) (fun _ _ h => h)
end
theorem TTurn.transC {w w1 w' : World} {X Y Z : Thg} (h : TTurn w X w1 Y) (h2 : TTurn w1 Y w' Z) : TTurn w X w' Z := by
  refine ⟨h2.at', ?_, fun k hk => ?_⟩
  · have h3 : Only (fun k => X.has k ∨ w.heap.size ≤ k) w w' := (h.only.mono (fun _ hk => .inl hk)).trans (h2.only.mono (fun k hk => h.new k hk))
    exact ⟨h3.os, h3.tape, h3.output, h3.size, fun k hk hs => h3.block k hk (fun e => e.elim hs (fun e => by omega))⟩
  · rcases h2.new k hk with h3 | h3
    · exact h.new k h3
    · exact .inr (Nat.le_trans h.only.size h3)
theorem ttl {w w1 w' : World} {X Y : Thg} (h : TTurn w X w1 Y) (hb : Below w1.heap.size w1 w') : TTurn w X w' Y :=
  ⟨Y.only (fun _ => False) w1 w' h.at' (Only.of_below hb) (fun _ _ h => h), h.only.trans (Only.of_below hb), h.new⟩
theorem owns_lenC {w : World} {base n size : Nat} {T : TypeId} {v : Value} {xs : List Value} (h : w.ownsRow base T size v n xs) : ∃ a c, v = .slice a n c := by
  obtain ⟨a, c, e, _⟩ := owns_slice h
  exact ⟨a, c, e⟩
def thRf (r : Nat) (v : Value) (L : List Fr) : Thg := ⟨fun w => RfV w r v L, fun k => k = r ∨ v.ownBlock = some k, fun _ _ _ h ho hs => h.only ho hs, fun _ h _ hk => h.lt hk⟩
def IsRf (Y : Thg) (r : Nat) (L : List Fr) : Prop := ∃ v, Y = thRf r v L
/-- What a call leaves. -/
def RfT (w : World) (r : Nat) (v : Value) (L : List Fr) (x : Value) (M : List Fr) (e : Ending) (w' : World) : Prop := e = .returned x ∧ ∃ v', TTurn w (thRf r v L) w' (thRf r v' M)
section
variable {w w' w1 : World} {r : Nat} {v v' : Value} {L L' : List Fr}
theorem RfT.same (h : RfV w r v L) {x : Value} (hb : Below w.heap.size w w') : RfT w r v L x L (.returned x) w' := ⟨rfl, v, h.later hb, Only.of_below hb, fun _ hk => .inl hk⟩
/-- Another row is the ring. -/
theorem RfV.set (h : RfV w r v L) (hb : Below w.heap.size w w1) (ho : w1.ownsRow w.heap.size TFr 3 v' L'.length (recV encF L')) : TTurn w (thRf r v L) (w1.setCell ⟨r, 0, none⟩ v') (thRf r v' L') := by
  have h1 := h.later hb
  have hr := h.lt (.inl rfl)
  have hne : v'.ownBlock ≠ some r := fun e => by
    have := (ho.lt r e).1
    omega
  have hst : Only (fun k => k = r) w1 (w1.setCell ⟨r, 0, none⟩ v') := Only.setCell (S := fun k => k = r) w1 ⟨r, 0, none⟩ rfl v'
  refine ⟨⟨(h1.row.setCell 0 v').ext (fun i hi => by
    obtain rfl : i = 0 := by omega
    rfl), owns_base (owns_only ho hst (fun k hk e => hne (by rw [hk, e]))) (fun _ _ => Nat.zero_le _), hne⟩, (Only.of_below hb).trans (hst.mono (fun k hk => .inl hk)), fun k hk => ?_⟩
  rcases hk with hk | hk
  · exact .inl (.inl hk)
  · exact .inr (ho.lt k hk).1
end
/-- Where a number is, by fndN. -/
theorem fnd_at {L : List Fr} {x : Int} {k : Nat} (h : fndN x 0 L = (k : Int)) : ∃ hk : k < L.length, ((L[k]'hk).1 : Int) = x := by
  rcases fnd_has (L := L) (x := x) 0 with ⟨h1, _⟩ | ⟨j, h1, h2, h3⟩
  · omega
  · obtain rfl : k = j := by omega
    exact ⟨h2, h3⟩
theorem fnd_no {L : List Fr} {x : Int} (h : hasL L x = false) : fndN x 0 L = -1 := by
  rcases fnd_has (L := L) (x := x) 0 with ⟨h1, _⟩ | ⟨j, h1, h2, h3⟩
  · exact h1
  · have h4 := fnd_ge (L := L) (x := x)
    rw [h, h1] at h4
    simp at h4
theorem fnd_yes {L : List Fr} {x : Int} (h : hasL L x = true) : ∃ k : Nat, fndN x 0 L = (k : Int) := by
  have h4 := fnd_ge (L := L) (x := x)
  rw [h] at h4
  have h5 := of_decide_eq_true h4
  exact ⟨(fndN x 0 L).toNat, by omega⟩
theorem has_at {L : List Fr} {k : Nat} (hk : k < L.length) : hasL L ((L[k]'hk).1 : Int) = true :=
  decide_eq_true ⟨by omega, List.mem_map.2 ⟨_, List.getElem_mem hk, by simp⟩⟩
theorem touL_set {L : List Fr} (I : ClI L) {k : Nat} (hk : k < L.length) : touL L ((L[k]'hk).1 : Int) = L.set k ((L[k]'hk).1, (L[k]'hk).2.1, true) := by
  unfold touL
  rw [if_pos (has_at hk)]
  refine List.ext_getElem (by simp) (fun j h1 h2 => ?_)
  rw [List.getElem_map, List.getElem_set]
  rw [List.length_map] at h1
  by_cases e : k = j
  · subst e
    rw [if_pos rfl, if_pos (by simp)]
  · rw [if_neg e, if_neg ?_]
    intro q
    have q : (L[j]'h1).1 = (L[k]'hk).1 := by simpa using q
    rcases Nat.lt_or_gt_of_ne e with hlt | hlt
    · exact names_ne I h1 hlt q.symm
    · exact names_ne I hk hlt q
theorem recF_set {L : List Fr} {k : Nat} {n : Nat} {a t t2 : Bool} (hk : L[k]? = some (n, a, t)) : (recV encF L).set (k * 3 + 2) (.bool t2) = recV encF (L.set k (n, a, t2)) := by
  induction L generalizing k with
  | nil => simp at hk
  | cons y L ih =>
    cases k with
    | zero =>
      simp at hk
      subst hk
      rfl
    | succ k =>
      have h1 := ih (k := k) (by simpa using hk)
      rw [List.set_cons_succ, recV, recV, ← h1, show (k + 1) * 3 + 2 = (k * 3 + 2) + 3 by omega, List.set_append, encF_len, if_neg (by omega), show k * 3 + 2 + 3 - 3 = k * 3 + 2 by omega]
section
variable {w w' w1 : World} {r : Nat} {v v' : Value} {L L' : List Fr}
set_option maxRecDepth 100000 in
set_option maxHeartbeats 2000000 in
theorem rtouch_any (h : RfV w r v L) (I : ClI L) (x : Int) : Calls Try.prog 16 #[.pointer (some ⟨r, 0, none⟩), .int .i64 x] w (RfT w r v L (.int .i64 (noE L x)) (touL L x)) := by
  have HF := Lib.hid (rfind_any h.ref I.len x)
  have HR := Lib.hid h
  have c0 := h.c0
  cases hh : hasL L x with
  | false =>
    rw [fnd_no hh] at HF
    rw [show noE L x = 7 from by unfold noE; rw [hh]; rfl, show touL L x = L from by unfold touL; rw [hh]; rfl]
    clear h hh
    go_enter Try.func16, Try.ntmps16
    go_wp2_with (fail)
    refine HF.out.mono ?_
    rintro e w1 ⟨rfl, rfl⟩
    go_wp2_with (fail)
    go_ret
    exact RfT.same HR.out (Below.refl _ _)
  | true =>
    obtain ⟨k, hk⟩ := fnd_yes hh
    obtain ⟨hkl, hx⟩ := fnd_at hk
    rw [hk] at HF
    have hts := touL_set I hkl
    rw [hx] at hts
    rw [show noE L x = 0 from by unfold noE; rw [hh]; rfl, hts]
    obtain ⟨y, hy⟩ : ∃ y, L[k]'hkl = y := ⟨_, rfl⟩
    obtain ⟨n, a, t⟩ := y
    rw [hy]
    obtain ⟨g, c, hv, _, ho, _, hcc, hzz⟩ := owns_where h.ow (by omega)
    have hgr : g ≠ r := fun e => h.ne (by rw [ho, e])
    have hat := recV_at encF_len L k _ (by rw [List.getElem?_eq_getElem hkl, hy]) 2 (.bool t) rfl
    have k2 := hcc (k * 3 + 2) _ (by omega) hat
    have z2 := hzz (k * 3 + 2)
    have hT : TTurn w (thRf r v L) (w.setCell ⟨g, k * 3 + 2, none⟩ (.bool true)) (thRf r v (L.set k (n, a, true))) := by
      have hst : Only (fun k => k = g) w (w.setCell ⟨g, k * 3 + 2, none⟩ (.bool true)) := Only.setCell (S := fun k => k = g) w ⟨g, k * 3 + 2, none⟩ rfl _
      refine ⟨⟨h.row.only hst (Ne.symm hgr), ?_, h.ne⟩, hst.mono (fun j hj => .inr (by rw [ho, hj])), fun _ hk => .inl hk⟩
      have h2 := h.ow
      rw [hv] at h2 ⊢
      rw [List.length_set, ← recF_set (t := t) (by rw [List.getElem?_eq_getElem hkl, hy])]
      exact owns_set h2 _ _
    have HT := Lib.hid hT
    have hkI : (k : Int) < (L.length : Int) := by omega
    subst hv
    clear h hk hx hts hy ho hcc hzz hat hT hgr hh I
    go_enter Try.func16, Try.ntmps16
    go_wp2_with (fail)
    refine HF.out.mono ?_
    rintro e w1 ⟨rfl, rfl⟩
    go_wp2_with (fail)
    go_ret
    exact ⟨rfl, _, HT.out⟩
end
end Go.Proofs.Ytndddfkebbeemaa
