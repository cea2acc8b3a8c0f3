/-
  The walk of SlotsPlays, for whatever slots.
-/
import Derived.Test.YtenfeamohcclaaaSlBoth
import Derived.Test.YtenfeamohcclaaaSlOps
import Derived.Test.YtenfeamohcclaaaRangeP
import Derived.Test.YtenfeamohcclaaaArr
import Derived.Deep.LoopGhost
import Derived.StillTailTactics
import Derived.Deep.DeepCutAuto
import Derived.Deep.CutBlock
namespace Go.Proofs.Ytenfeamohcclaaa
open Go.RowKit Go.Shelf Go
attribute [local go_sem] Oper.semAt_some

def spF (u : Nat → Value) (la : Option Addr) (len cap sb rc d rb k : Nat) : List Value :=
  [u 0, .slice la len cap, u 2, u 3, u 4, .pointer (some ⟨sb, 0, none⟩), .pointer (some ⟨rc, 0, none⟩), .pointer (some ⟨d, 0, none⟩), .pointer (some ⟨rb, 0, none⟩), u 9, u 10, u 11, u 12, u 13, u 14, u 15, u 16, u 17, u 18, u 19, u 20, u 21, u 22, u 23, u 24, u 25, u 26, u 27, u 28, u 29, u 30, u 31, u 32, u 33, u 34, u 35, u 36, u 37, u 38, u 39, u 40, .int .i64 len, .int .i64 k, u 43, u 44, u 45, u 46, u 47, u 48, u 49, u 50, u 51, u 52, u 53, u 54, u 55, u 56, u 57, u 58, u 59, u 60, u 61, u 62, u 63, u 64, u 65, u 66, u 67, u 68, u 69, u 70, u 71, u 72, u 73, u 74, u 75, u 76, u 77, u 78, u 79, u 80, u 81, u 82, u 83, u 84, u 85, u 86, u 87, u 88, u 89, u 90, u 91, u 92, u 93, u 94, u 95, u 96, u 97, u 98, u 99, u 100, u 101, u 102, u 103, u 104, u 105, u 106, u 107, u 108, u 109, u 110, u 111, u 112, u 113, u 114, u 115, u 116, u 117, u 118, u 119, u 120, u 121, u 122, u 123, u 124, u 125, u 126, u 127, u 128, u 129, u 130, u 131, u 132, u 133, u 134, u 135, u 136, u 137, u 138, u 139, u 140, u 141, u 142, u 143, u 144, u 145, u 146, u 147, u 148, u 149, u 150, u 151, u 152, u 153, u 154, u 155, u 156, u 157, u 158, u 159, u 160, u 161, u 162, u 163, u 164, u 165, u 166, u 167, u 168, u 169, u 170, u 171, u 172, u 173, u 174, u 175, u 176, u 177, u 178, u 179, u 180, u 181, u 182, u 183, u 184, u 185, u 186, u 187, u 188, u 189, u 190, u 191, u 192, u 193, u 194, u 195, u 196]
set_option maxRecDepth 100000 in
theorem sp_frame {t : Array Value} {la : Option Addr} {len cap sb rc d rb k : Nat} (hs : t.size = 197) (h1 : t[1]? = some (Value.slice la len cap)) (h5 : t[5]? = some (Value.pointer (some ⟨sb, 0, none⟩))) (h6 : t[6]? = some (Value.pointer (some ⟨rc, 0, none⟩))) (h7 : t[7]? = some (Value.pointer (some ⟨d, 0, none⟩))) (h8 : t[8]? = some (Value.pointer (some ⟨rb, 0, none⟩))) (h41 : t[41]? = some (Value.int .i64 len)) (h42 : t[42]? = some (Value.int .i64 k)) :
    ∃ u, t = (spF u la len cap sb rc d rb k).toArray := by
  refine ⟨fun i => t.getD i undef, ?_⟩
  have hu : ∀ i v, t[i]? = some v → t.getD i undef = v := fun i v h => by
    obtain ⟨hl, rfl⟩ := Array.getElem?_eq_some_iff.1 h
    simp [Array.getD, hl]
  have e : t = ((List.range 197).map fun i => t.getD i undef).toArray := by
    apply Array.ext
    · simp [hs]
    · intro i h1 h2
      simp [Array.getD, h1]
  refine e.trans ?_
  congr 1
  obtain ⟨u, hu2⟩ : ∃ u : Nat → Value, u = fun i => t.getD i undef := ⟨_, rfl⟩
  rw [← hu2]
  unfold spF
  rw [← (show u 1 = .slice la len cap by rw [hu2]; exact hu 1 _ h1)]
  rw [← (show u 5 = .pointer (some ⟨sb, 0, none⟩) by rw [hu2]; exact hu 5 _ h5)]
  rw [← (show u 6 = .pointer (some ⟨rc, 0, none⟩) by rw [hu2]; exact hu 6 _ h6)]
  rw [← (show u 7 = .pointer (some ⟨d, 0, none⟩) by rw [hu2]; exact hu 7 _ h7)]
  rw [← (show u 8 = .pointer (some ⟨rb, 0, none⟩) by rw [hu2]; exact hu 8 _ h8)]
  rw [← (show u 41 = .int .i64 len by rw [hu2]; exact hu 41 _ h41)]
  rw [← (show u 42 = .int .i64 k by rw [hu2]; exact hu 42 _ h42)]
  rfl
theorem infoOpP : (Try.prog.info? 33).map (·.size) = some 4 := by kernel_rfl
theorem store_opp (w : World) (Z : Array Value) (hz : Z.size = 4) (o : OpA) :
    (storeVar 33 ⟨w.heap.size, 0, none⟩ (.agg #[.int .i64 o.kind, .int .i64 o.slot, .int .i64 o.pid, .int .i64 o.page])).run Try.prog (w.alloc (.cells Z 33)) = .ok () (w.alloc (.cells #[.int .i64 o.kind, .int .i64 o.slot, .int .i64 o.pid, .int .i64 o.page] 33)) :=
  run_storeVar_new (P := Try.prog) w 33 Z _ infoOpP hz (by simp [Value.oneCell'])
theorem opp_row (w : World) (x : OpA) (t : TypeId) : RowAt (w.alloc (.cells #[.int .i64 x.kind, .int .i64 x.slot, .int .i64 x.pid, .int .i64 x.page] t)) w.heap.size 4 (opV x) :=
  RowAt.new w _ _ _ _ fun i hi => by
    rcases (show i = 0 ∨ i = 1 ∨ i = 2 ∨ i = 3 by omega) with rfl | rfl | rfl | rfl <;> rfl
theorem still_tailS {P : Program} {id : Nat} {Q : Exit → Act → World → Prop} {a : Act} {w : World} {l : List Oper} (n : Nat) (hm : P.follows .mixedOrders = true) (hB : Region.lexTailB .any l.toArray n = true)
    (h : wpStill P l.toArray w.drew (fun a' => wpList P l.toArray Q (l.drop n) a' w.drew) (l.take n) a) : (Code.region id l.toArray true).wp P Q a w :=
  wp_region_still_tail n hm hB h
theorem own_in {w : World} {B : Nat} {la : Option Addr} {lc : Nat} {L : List Nat} (h : w.ownsRow B 3 1 (.slice la L.length lc) L.length (recV encI L)) (j : Nat) (hj : j < L.length) :
    ∃ g, la = some ⟨g, 0, none⟩ ∧ w.cell? ⟨g, j, none⟩ = some (.int .i64 ((L[j]'hj) : Nat)) := by
  obtain ⟨a, cap, e, hR⟩ := RecsAt.of_owns h
  injection e with e1 _ _
  subst e1
  obtain ⟨g, rfl, _, _, hr⟩ := hR.get encI_len j hj
  refine ⟨g, rfl, ?_⟩
  have h2 := hr 0 _ rfl
  rw [Nat.mul_one] at h2
  exact h2
theorem own_sliceI {w : World} {B : Nat} {v : Value} {L : List Nat} (h : w.ownsRow B 3 1 v L.length (recV encI L)) : ∃ la lc, v = .slice la L.length lc := by
  obtain ⟨a, cap, rfl, _⟩ := RecsAt.of_owns h
  exact ⟨a, cap, rfl⟩
/-- The law's world: slots, ranges' blocks, boxes of the law's (Q). -/
structure SpAt (Is : Thg → Prop) (wa : World) (Ds : List Nat) (Q : Nat → Prop) (W : World) : Prop where
  kp : KPT Is wa (fun k => k ∈ Ds ∨ Q k) W
  nd : Ds.Nodup
  ds : ∀ D ∈ Ds, W.heap[D]? = some (.deferred (some [])) ∧ wa.heap.size ≤ D
section
variable {Is Is' : Thg → Prop} {wa W W' : World} {Ds : List Nat} {Q Q' S : Nat → Prop} {D : Nat}
theorem SpAt.later (h : SpAt Is wa Ds Q W) (hb : Below W.heap.size W W') : SpAt Is wa Ds Q W' :=
  ⟨h.kp.later hb, h.nd, fun D hD => ⟨(hb.block D (Array.getElem?_eq_some_iff.1 (h.ds D hD).1).1).trans (h.ds D hD).1, (h.ds D hD).2⟩⟩
theorem SpAt.turn (h : SpAt Is wa Ds Q W) (hk : KPT Is' wa (fun k => k ∈ Ds ∨ Q k) W') (ho : Only (fun k => ¬ (k ∈ Ds ∨ Q k)) W W') : SpAt Is' wa Ds Q W' :=
  ⟨hk, h.nd, fun D hD => ⟨(ho.block D (Array.getElem?_eq_some_iff.1 (h.ds D hD).1).1 (fun hn => hn (.inl hD))).trans (h.ds D hD).1, (h.ds D hD).2⟩⟩
theorem SpAt.add (h : SpAt Is wa Ds Q W) (hb : Below W.heap.size W W') (hw : ∀ k, Q' k → Q k ∨ W.heap.size ≤ k ∧ k < W'.heap.size) : SpAt Is wa Ds Q' W' :=
  ⟨h.kp.add hb (fun k hk => hk.elim (fun h => .inl (.inl h)) (fun h => (hw k h).imp .inr id)), h.nd, (h.later hb).ds⟩
theorem SpAt.more (h : SpAt Is wa Ds Q W) (ho : Only S W W') (hS : ∀ k, S k → Q k ∧ wa.heap.size ≤ k ∧ k ∉ Ds) (hD : W.heap.size ≤ D) (hk : W'.heap[D]? = some (.deferred (some []))) (hQ : ∀ k, Q' k → Q k) : SpAt Is wa (D :: Ds) Q' W' := by
  have hlt := (Array.getElem?_eq_some_iff.1 hk).1
  refine ⟨h.kp.more ho (fun k hk => .inr (hS k hk).1) (fun k hk => (hS k hk).2.1) (fun k hk => ?_), List.nodup_cons.2 ⟨fun hm => ?_, h.nd⟩, fun E hE => ?_⟩
  · rcases hk with hk | hk
    · rcases List.mem_cons.1 hk with rfl | hk
      · exact .inr ⟨hD, hlt⟩
      · exact .inl (.inl hk)
    · exact .inl (.inr (hQ k hk))
  · have := (Array.getElem?_eq_some_iff.1 (h.ds D hm).1).1
    omega
  · rcases List.mem_cons.1 hE with rfl | hE
    · exact ⟨hk, Nat.le_trans h.kp.bel.size hD⟩
    · exact ⟨(ho.block E (Array.getElem?_eq_some_iff.1 (h.ds E hE).1).1 (fun hs => (hS E hs).2.2 hE)).trans (h.ds E hE).1, (h.ds E hE).2⟩
end
section
variable {IsS : Thg → Nat → Nat → (Nat → Ownr) → Prop} (ok : SlOk IsS)
include ok
set_option maxRecDepth 100000 in
set_option maxHeartbeats 16000000 in
theorem lawSPlays_in (q : Nat) (hm : 8 ≤ q) (n0 stop : Int) (a : Option Addr) (len cap : Nat) (O : Nat → OpA) (w : World) (hI : InZ n0) (hO : OpsAt w a len O) :
    CallsIn Fence.wide q Try.prog 3 #[.int .i64 n0, .slice a len cap, .int .i64 stop] w fun e w' => e = .returned (.bool true) ∧ Below w.heap.size w w' := by
  have h1 : 1 ≤ q := by omega
  have HO := Lib.hid hO
  clear hO
  refine callsIn_of_wp_marks Try.func3 rfl trivial ?_ rfl
  simp only [Try.ntmps3, List.size_toArray, List.length_cons, List.length_nil, Nat.reduceAdd, Nat.reduceSub, Array.replicate_succ, Array.replicate_zero, List.push_toArray, List.append_toArray, List.nil_append, List.cons_append]
  refine wpIn_wide.2 ?_
  obtain ⟨wa, hwa⟩ : ∃ wa, (w.alloc (.cells #[.int .i64 stop] 3)).alloc (.cells #[.bool false] 4) = wa := ⟨_, rfl⟩
  have HB0 := Lib.hid (show Below w.heap.size w wa from by rw [← hwa]; exact ((Below.refl _ w).alloc (Nat.le_refl _) _).alloc (by simp) _)
  have HSA := Lib.hid (show wa.heap.size = w.heap.size + 2 from by rw [← hwa]; simp)
  have HRS := Lib.hid (show RowAt wa w.heap.size 1 (fun _ => .int .i64 stop) from by rw [← hwa]; exact (bx_new w stop _).alloc _)
  have HRC := Lib.hid (show RowAt wa (w.heap.size + 1) 1 (fun _ => .bool false) from by
    rw [← hwa]
    have h := RowAt.new (w.alloc (.cells #[.int .i64 stop] 3)) #[.bool false] 4 1 (fun _ => .bool false) (fun i hi => by
      obtain rfl : i = 0 := by omega
      rfl)
    rw [World.size_alloc] at h
    exact h)
  by_cases hl : len ≤ 200
  · have hlI : ¬ (200 : Int) < len := by omega
    have hd2 : decide (200 < len) = false := decide_eq_false (by omega)
    have hd1 : decide ((200 : Int) < (len : Int)) = false := decide_eq_false hlI
    obtain ⟨N, hN⟩ : ∃ N, capN n0 = N := ⟨_, rfl⟩
    have HN := Lib.hid (show N ≤ 1024 from by rw [← hN]; exact capN_le _)
    go_wp2_with (fail)
    clear hwa hd1 hd2 hlI
    generalize hsb : w.heap.size = sb at *
    generalize hrc : sb + 1 = rc at *
    refine (new_sl ok wa n0 hI hN).mono ?_
    rintro e w1 ⟨d, rfl, hk⟩
    have HK1 := Lib.hid hk
    clear hk
    go_wp2_with (fail)
    refine (new_pd HK1.out n0 hN).mono ?_
    rintro e w2 ⟨rb, lb, rfl, hk⟩
    have HK2 := Lib.hid hk
    clear hk HK1 hN
    have hrf := HK2.out.ref_pd
    obtain ⟨cpR, cR⟩ := hrf.c0
    have LR := Lib.hid (show ∀ W, Kept w2.heap.size w2 W → (loadVar 29 ⟨rb, 0, none⟩).run Try.prog W = .ok (.slice (some ⟨lb, 0, none⟩) N cpR) W from fun W hW => run_loadVar_cell (fun _ => by kernel_rfl) (by rw [hW.cell (World.block_lt_of_cell? _ _ cR)]; exact cR))
    have HFR := Lib.hid (show ∀ W, Kept w2.heap.size w2 W → Calls Try.prog 11 #[.pointer (some ⟨d, 0, none⟩)] W fun e w' => e = .returned (.int .i64 N) ∧ Below W.heap.size W w' from fun W hW => len_sl ok (HK2.out.later hW.below).one_pd)
    clear hrf cR
    go_wp2_with (fail)
    refine wp_region_lex (Kept w2.heap.size w2) [(0, false), (2, false), (3, false), (4, false), (5, false), (6, false), (1, true), (7, false)] (by kernel_rfl) (by kernel_rfl) rfl (by kernel_rfl) (Below.refl _ w2).drew ?_
    intro W0 hK0
    refine lexH_yieldE rfl rfl ?_
    apply Exists.intro
    refine ⟨fun W hW => ?_, ?_⟩
    focus (go_simp; exact rfl)
    simp only [List.getElem_toArray, List.getElem_cons_zero, Act.put, List.setIfInBounds_toArray, List.set_cons_zero, List.set_cons_succ]
    refine lexH_yieldE rfl rfl ?_
    apply Exists.intro
    refine ⟨fun W hW => ?_, ?_⟩
    focus (go_simp; exact rfl)
    simp only [List.getElem_toArray, List.getElem_cons_succ, List.getElem_cons_zero, Act.put, List.setIfInBounds_toArray, List.set_cons_zero, List.set_cons_succ]
    refine lexH_yieldE rfl rfl ?_
    apply Exists.intro
    refine ⟨fun W hW => ?_, ?_⟩
    focus (go_simp; exact rfl)
    simp only [List.getElem_toArray, List.getElem_cons_succ, List.getElem_cons_zero, Act.put, List.setIfInBounds_toArray, List.set_cons_zero, List.set_cons_succ]
    refine lexH_yieldE rfl rfl ?_
    apply Exists.intro
    refine ⟨fun W hW => ?_, ?_⟩
    focus (go_simp; exact rfl)
    simp only [List.getElem_toArray, List.getElem_cons_succ, List.getElem_cons_zero, Act.put, List.setIfInBounds_toArray, List.set_cons_zero, List.set_cons_succ]
    refine lexH_load rfl rfl _ _ rfl rfl LR.out ?_
    simp only [List.getElem_toArray, List.getElem_cons_succ, List.getElem_cons_zero, Act.put, List.setIfInBounds_toArray, List.set_cons_zero, List.set_cons_succ]
    refine lexH_yieldE rfl rfl ?_
    apply Exists.intro
    refine ⟨fun W hW => ?_, ?_⟩
    focus (go_simp; exact rfl)
    simp only [List.getElem_toArray, List.getElem_cons_succ, List.getElem_cons_zero, Act.put, List.setIfInBounds_toArray, List.set_cons_zero, List.set_cons_succ]
    refine lexH_call 11 #[.pointer (some ⟨d, 0, none⟩)] rfl rfl ?_ ?_
    focus (go_simp; done)
    refine (HFR.out W0 hK0).mono ?_
    rintro e w3 ⟨rfl, hb⟩
    have hK3 := hK0.call (Nat.le_refl _) hb
    refine ⟨_, rfl, hK3, ?_⟩
    simp only [List.getElem_toArray, List.getElem_cons_succ, List.getElem_cons_zero, Act.put, List.setIfInBounds_toArray, List.set_cons_zero, List.set_cons_succ]
    refine lexH_yieldE rfl rfl ?_
    apply Exists.intro
    refine ⟨fun W hW => ?_, ?_⟩
    focus (go_simp; exact rfl)
    simp only [List.getElem_toArray, List.getElem_cons_succ, List.getElem_cons_zero, Act.put, List.setIfInBounds_toArray, List.set_cons_zero, List.set_cons_succ]
    refine lexH_nil ?_
    have HA0 := Lib.hid (show SpAt (PD IsS d N (fun _ => (0, 0)) rb lb (fun _ => (0, 0))) wa [] (fun _ => False) w3 from ⟨(HK2.out.later hK3.below).add (Below.refl _ _) (fun k hk => hk.elim (fun h => absurd h List.not_mem_nil) (fun h => h.elim)), List.nodup_nil, fun D hD => absurd hD List.not_mem_nil⟩)
    clear hb hK3 hK0 HK2 LR HFR
    go_wp2_with (fail)
    refine wp_loop_ghost (fun j a' W => ∃ (k d : Nat) (f : Nat → Ownr) (Ds : List Nat), j = len - k ∧ k ≤ len ∧ a'.tmps.size = 197 ∧ a'.tmps[1]? = some (.slice a len cap) ∧ a'.tmps[5]? = some (.pointer (some ⟨sb, 0, none⟩)) ∧ a'.tmps[6]? = some (.pointer (some ⟨rc, 0, none⟩)) ∧ a'.tmps[7]? = some (.pointer (some ⟨d, 0, none⟩)) ∧ a'.tmps[8]? = some (.pointer (some ⟨rb, 0, none⟩)) ∧
      a'.tmps[41]? = some (.int .i64 len) ∧ a'.tmps[42]? = some (.int .i64 k) ∧ a'.defers = colls Ds ∧ SpAt (PD IsS d N f rb lb f) wa Ds (fun _ => False) W) len
      ⟨0, d, _, [], rfl, Nat.zero_le _, rfl, rfl, rfl, rfl, rfl, rfl, rfl, rfl, rfl, HA0.out⟩ ?_
    clear HA0
    rintro j ⟨tm, df⟩ wr ⟨k, d, f, Ds, rfl, hk, s0, t1, t5, t6, t7, t8, t41, t42, rfl, hA⟩
    dsimp only at s0 t1 t5 t6 t7 t8 t41 t42
    obtain ⟨u, rfl⟩ := sp_frame s0 t1 t5 t6 t7 t8 t41 t42
    have HA := Lib.hid hA
    clear s0 t1 t5 t6 t7 t8 t41 t42 hA
    unfold spF
    by_cases hlt : k < len
    · obtain ⟨gb, go, rfl, _, hok, hc⟩ := HO.out.one k hlt
      have HBl := Lib.hid (show Below w.heap.size w wr from by rw [hsb]; exact HB0.out.trans (HA.out.kp.bel.mono (by have := HSA.out; omega)))
      obtain ⟨c0, c1, c2, c3⟩ := hc wr HBl.out
      have HLT := Lib.hid hlt
      have hltI : (k : Int) < (len : Int) := by omega
      clear hc HBl hlt
      generalize O k = op at c0 c1 c2 c3 hok
      have HST := Lib.hid (store_opp wr #[.int .i64 0, .int .i64 0, .int .i64 0, .int .i64 0] rfl op)
      have HRW := Lib.hid (opp_row wr op 33)
      have HPW := Lib.hid (HA.out.add (Q' := fun j => j = wr.heap.size) ((Below.refl _ _).alloc (Nat.le_refl _) (.cells #[.int .i64 op.kind, .int .i64 op.slot, .int .i64 op.pid, .int .i64 op.page] 33)) (fun j hj => .inr ⟨Nat.le_of_eq hj.symm, by rw [hj]; simp⟩))
      obtain ⟨kind, slo, pid, pag⟩ := op
      dsimp only at c0 c1 c2 c3 hok HST HRW HPW
      clear HA
      go_upto_block 2 with (refine wpList_store_run rfl 33 _ _ rfl wr.heap.size _ _ rfl rfl HST.out ?_)
      clear c0 c1 c2 c3 HST
      generalize wr.heap.size = ob at *
      generalize wr.alloc (.cells #[.int .i64 kind, .int .i64 slo, .int .i64 pid, .int .i64 pag] 33) = W1 at *
      go_cut [7, 11, 12, 13, 14, 15, 16] from 51 to 105 (fun s _ _ _ _ _ _ wc => ∃ (d' : Nat) (g : Nat → Ownr), s = .pointer (some ⟨d', 0, none⟩) ∧ Hid (SpAt (PD IsS d' N g rb lb g) wa Ds (fun k => k = ob) wc) ∧ Hid (RowAt wc ob 4 (opV ⟨kind, slo, pid, pag⟩)))
      case first =>
        have HP := HPW
        have HR := HRW
        clear HPW HRW
        have c1 := HR.out.cell 1 (by decide)
        have c2 := HR.out.cell 2 (by decide)
        have c3 := HR.out.cell 3 (by decide)
        have ck := HR.out.cell 0 (by decide)
        simp only [opV] at c1 c2 c3 ck
        by_cases k0 : kind = 0
        · obtain ⟨kk, hkk⟩ : ∃ c, stK f N pid pag = c := ⟨_, rfl⟩
          obtain ⟨cc, hcc⟩ : ∃ c, stE f N pid pag = c := ⟨_, rfl⟩
          obtain ⟨gg, hgg⟩ : ∃ g, stF f N pid pag = g := ⟨_, rfl⟩
          as_aux_lemma =>
            subst k0
            go_wp2_with (fail)
            refine (take_pd ok HP.out.kp pid pag hok.2.1 hok.2.2 kk cc gg hkk hcc hgg).mono ?_
            rintro e w4 ⟨rfl, hk4, ho⟩
            have HP4 := Lib.hid (HP.out.turn hk4 ho)
            have HR4 := Lib.hid (HR.out.only ho (fun h => h (.inr rfl)))
            clear hk4 ho HP HR c1 c2 c3 ck
            have c2 := HR4.out.cell 2 (by decide)
            have c3 := HR4.out.cell 3 (by decide)
            simp only [opV] at c2 c3
            go_wp2_with (fail)
            refine (rtake_pd ok HP4.out.kp pid pag kk cc gg hkk hcc hgg).mono ?_
            rintro e w5 ⟨rfl, hk5, ho⟩
            have HP5 := Lib.hid (HP4.out.turn hk5 ho)
            have HR5 := Lib.hid (HR4.out.only ho (fun h => h (.inr rfl)))
            clear hk5 ho HP4 HR4 c2 c3 hkk hcc hgg
            go_wp2_with (fail)
            go_meet
            exact ⟨d, gg, rfl, HP5, HR5⟩
        · have e0 : (kind == 0) = false := beq_eq_false_iff_ne.2 k0
          by_cases k1 : kind = 1
          · obtain ⟨cc, hcc⟩ : ∃ c, rcE f N slo = c := ⟨_, rfl⟩
            obtain ⟨gg, hgg⟩ : ∃ g, rcF f N slo = g := ⟨_, rfl⟩
            as_aux_lemma =>
              subst k1
              have L1 := Lib.hid (show ∀ W, Only (fun k => ¬ k = ob) W1 W → (loadVar 3 ⟨ob, 1, none⟩).run Try.prog W = .ok (.int .i64 slo) W from fun W hW => run_loadVar_cell (fun _ => by kernel_rfl) (hW.cell (fun h => h rfl) c1))
              go_wp2_with (fail)
              refine wp_region_lex1 (fun W => Only (fun k => ¬ k = ob) W1 W) [(0, false), (1, false), (2, false), (4, false), (5, false), (6, false), (3, true), (7, true), (8, false)] (by kernel_rfl) (by kernel_rfl) rfl (by kernel_rfl) (Only.of_below (Below.refl _ _).drew) ?_
              intro W0 hW0 hK0
              have HPa := Lib.hid (show SpAt (PD IsS d N f rb lb f) wa Ds (fun k => k = ob) W0 from by rw [hW0]; exact HP.out.later (Below.refl _ _).drew)
              clear hW0 HP c1 c2 c3 ck
              refine lexH_yieldE rfl rfl ?_
              apply Exists.intro
              refine ⟨fun W hW => ?_, ?_⟩
              focus (go_simp; exact rfl)
              simp only [List.getElem_toArray, List.getElem_cons_zero, Act.put, List.setIfInBounds_toArray, List.set_cons_zero, List.set_cons_succ]
              refine lexH_yieldE rfl rfl ?_
              apply Exists.intro
              refine ⟨fun W hW => ?_, ?_⟩
              focus (go_simp; exact rfl)
              simp only [List.getElem_toArray, List.getElem_cons_succ, List.getElem_cons_zero, Act.put, List.setIfInBounds_toArray, List.set_cons_zero, List.set_cons_succ]
              refine lexH_load rfl rfl _ _ rfl rfl L1.out ?_
              simp only [List.getElem_toArray, List.getElem_cons_succ, List.getElem_cons_zero, Act.put, List.setIfInBounds_toArray, List.set_cons_zero, List.set_cons_succ]
              refine lexH_yieldE rfl rfl ?_
              apply Exists.intro
              refine ⟨fun W hW => ?_, ?_⟩
              focus (go_simp; exact rfl)
              simp only [List.getElem_toArray, List.getElem_cons_succ, List.getElem_cons_zero, Act.put, List.setIfInBounds_toArray, List.set_cons_zero, List.set_cons_succ]
              refine lexH_yieldE rfl rfl ?_
              apply Exists.intro
              refine ⟨fun W hW => ?_, ?_⟩
              focus (go_simp; exact rfl)
              simp only [List.getElem_toArray, List.getElem_cons_succ, List.getElem_cons_zero, Act.put, List.setIfInBounds_toArray, List.set_cons_zero, List.set_cons_succ]
              refine lexH_load rfl rfl _ _ rfl rfl L1.out ?_
              simp only [List.getElem_toArray, List.getElem_cons_succ, List.getElem_cons_zero, Act.put, List.setIfInBounds_toArray, List.set_cons_zero, List.set_cons_succ]
              refine lexH_call 14 #[.pointer (some ⟨d, 0, none⟩), .int .i64 slo] rfl rfl ?_ ?_
              focus (go_simp; done)
              refine (free_pd ok HPa.out.kp slo hok.1 cc gg hcc hgg).mono ?_
              rintro e w4 ⟨rfl, hk4, ho⟩
              have HP4 := Lib.hid (HPa.out.turn hk4 ho)
              have hK4 := hK0.trans (ho.mono (fun k hk h => hk (.inr h)))
              refine ⟨_, rfl, hK4, ?_⟩
              clear hk4 ho HPa hK0
              simp only [List.getElem_toArray, List.getElem_cons_succ, List.getElem_cons_zero, Act.put, List.setIfInBounds_toArray, List.set_cons_zero, List.set_cons_succ]
              refine lexH_call 15 #[.pointer (some ⟨rb, 0, none⟩), .int .i64 slo] rfl rfl ?_ ?_
              focus (go_simp; done)
              refine (rfree_pd HP4.out.kp slo cc gg hcc hgg).mono ?_
              rintro e w5 ⟨rfl, hk5, ho⟩
              have HP5 := Lib.hid (HP4.out.turn hk5 ho)
              have hK5 := hK4.trans (ho.mono (fun k hk h => hk (.inr h)))
              have HR5 := Lib.hid (HR.out.only hK5 (fun h => h rfl))
              refine ⟨_, rfl, hK5, ?_⟩
              clear hk5 ho HP4 hK4 hK5 L1
              simp only [List.getElem_toArray, List.getElem_cons_succ, List.getElem_cons_zero, Act.put, List.setIfInBounds_toArray, List.set_cons_zero, List.set_cons_succ]
              refine lexH_yieldE rfl rfl ?_
              apply Exists.intro
              refine ⟨fun W hW => ?_, ?_⟩
              focus (go_simp; exact rfl)
              simp only [List.getElem_toArray, List.getElem_cons_succ, List.getElem_cons_zero, Act.put, List.setIfInBounds_toArray, List.set_cons_zero, List.set_cons_succ]
              refine lexH_nil ?_
              go_wp2_with (fail)
              go_meet
              exact ⟨d, gg, rfl, HP5, HR5⟩
          · have e1 : (kind == 1) = false := beq_eq_false_iff_ne.2 k1
            by_cases k2 : kind = 2
            · as_aux_lemma =>
                subst k2
                go_wp2_with (fail)
                refine (copy_pd ok HP.out.kp).mono ?_
                rintro e w4 ⟨d2, rfl, hk4, ho⟩
                have HP4 := Lib.hid (HP.out.turn hk4 ho)
                have HR4 := Lib.hid (HR.out.only ho (fun h => h (.inr rfl)))
                have hrf := hk4.drop_p3.ref_pd
                obtain ⟨cpR, cR⟩ := hrf.c0
                clear hk4 ho HP HR hrf c1 c2 c3 ck
                go_wp2_with (fail)
                go_loopw [99] (fun iv wx => ∃ (j : Nat) (g : Nat → Ownr), iv = .int .i64 j ∧ j ≤ N ∧ Hid (SpAt (P3 IsS d N g rb lb f d2 f) wa Ds (fun k => k = ob) wx) ∧ Hid (RowAt wx ob 4 (opV ⟨2, slo, pid, pag⟩))) (fun iv _ => N - (intOf iv).toNat)
                case atStart => exact ⟨0, _, rfl, Nat.zero_le _, HP4, HR4⟩
                case round =>
                  clear HP4 HR4 cR
                  rename World => wx
                  obtain ⟨j, g, rfl, hj, HP4, HR4⟩ := hrel
                  have b1 := HN.out
                  by_cases hlj : j < N
                  · go_wp2_with (fail)
                    refine (free_p3 ok HP4.out.kp (j : Int) ⟨by omega, by omega⟩).mono ?_
                    rintro e w6 ⟨c6, rfl, hk6, ho⟩
                    have HP6 := Lib.hid (HP4.out.turn hk6 ho)
                    have HR6 := Lib.hid (HR4.out.only ho (fun h => h (.inr rfl)))
                    clear hk6 ho HP4 HR4
                    go_wp2_with (fail)
                    go_roundw
                    case rel => exact ⟨j + 1, _, by go_num, hlj, HP6, HR6⟩
                    case measure => simp [intOf]; omega
                  · obtain rfl : j = N := by omega
                    have HP7 := Lib.hid (show SpAt (PD IsS d2 j f rb lb f) wa Ds (fun k => k = ob) wx from ⟨HP4.out.kp.drop_p3, HP4.out.nd, HP4.out.ds⟩)
                    clear HP4
                    go_wp2_with (fail)
                    go_meet
                    exact ⟨d2, f, rfl, HP7, HR4⟩
            · have e2 : (kind == 2) = false := beq_eq_false_iff_ne.2 k2
              go_wp2_with (fail)
              go_meet
              exact ⟨d, f, rfl, HP, HR⟩
      case rest =>
        as_aux_lemma =>
          obtain ⟨d', g, rfl, HC, HRO⟩ := hcut
          have c1 : wc.cell? ⟨ob, 1, none⟩ = some (.int .i64 slo) := HRO.out.cell 1 (by decide)
          clear HPW HRW
          obtain ⟨⟨p, x⟩, hpx⟩ : ∃ x, rgO g N slo = x := ⟨_, rfl⟩
          have HPX := Lib.hid hpx
          obtain ⟨b, hb⟩ : ∃ b, decide (p ≠ 0) = b := ⟨_, rfl⟩
          have HBB := Lib.hid hb
          clear hpx hb
          go_wp2_with (fail)
          refine (owner_sl ok HC.out.kp.one_pd slo hok.1 p x b HPX.out HBB.out).mono ?_
          rintro e w8 ⟨rfl, hb⟩
          have HC8 := Lib.hid (HC.out.later hb)
          have HR8 := Lib.hid (HRO.out.later hb)
          clear hb HC HRO c1
          have HB9 := Lib.hid ((Below.refl w8.heap.size w8).alloc (Nat.le_refl _) (.cells #[.int .i64 0, .int .i64 0] 42))
          have HZ9 := Lib.hid (RowAt.new w8 #[.int .i64 0, .int .i64 0] 42 2 (fun _ => .int .i64 0) (fun i hi => by
            rcases (show i = 0 ∨ i = 1 by omega) with rfl | rfl <;> rfl))
          have HRF := Lib.hid (HC8.out.kp.later HB9.out).ref_pd
          have HR9 := Lib.hid (HR8.out.later HB9.out)
          have HC9 := Lib.hid (HC8.out.add (Q' := fun _ => False) (Below.refl _ _) (fun _ h => h.elim))
          clear HC8 HR8
          go_upto_region 30 with (fail)
          generalize w8.alloc (.cells #[.int .i64 0, .int .i64 0] 42) = w9 at *
          generalize hwb : w8.heap.size = wb at *
          obtain ⟨cpR, cR⟩ := HRF.out.c0
          have c1 : w9.cell? ⟨ob, 1, none⟩ = some (.int .i64 slo) := HR9.out.cell 1 (by decide)
          go_cut [128] from 116 to 128 (fun v wc => v = .bool (decide (FrOk N slo)) ∧ ∃ nq, wc = w9.drewN nq)
          case first =>
            by_cases h0 : slo < 0
            · have h0' : ¬ 0 ≤ slo := by omega
              go_quiet (fail)
              go_wp2_with (fail)
              go_meet
              exact ⟨congrArg Value.bool (decide_eq_false (fun h => by have := h.1; omega)).symm, _, rfl⟩
            · have h0' : 0 ≤ slo := by omega
              by_cases h2 : slo < (N : Int)
              · go_quiet (fail)
                go_wp2_with (fail)
                go_meet
                exact ⟨congrArg Value.bool (decide_eq_true (show FrOk N slo from ⟨h0', h2⟩)).symm, _, rfl⟩
              · go_quiet (fail)
                go_wp2_with (fail)
                go_meet
                exact ⟨congrArg Value.bool (decide_eq_false (fun h => by have := h.2; omega)).symm, _, rfl⟩
          case rest =>
            obtain ⟨rfl, nq, rfl⟩ := hcut
            have HZV := Lib.hid (HZ9.out.later (below_drewN (Below.refl w9.heap.size w9) nq))
            have HBV := Lib.hid (below_drewN HB9.out nq)
            have HRV := Lib.hid (HRF.out.later (below_drewN (Below.refl w9.heap.size w9) nq))
            have HOV := Lib.hid (HR9.out.later (below_drewN (Below.refl w9.heap.size w9) nq))
            clear c1 cR HB9 HZ9 HRF HR9
            generalize w9.drewN nq = V0 at *
            go_upto_if 128 with (fail)
            go_cut [] from 128 to 136 (fun wd => Hid (Below wb w8 wd) ∧ Hid (RowAt wd wb 2 (fun i => if i = 0 then .int .i64 p else .int .i64 x)))
            case first =>
              have z0 : V0.cell? ⟨wb, 0, none⟩ = some (.int .i64 0) := HZV.out.cell 0 (by decide)
              have z1 : V0.cell? ⟨wb, 1, none⟩ = some (.int .i64 0) := HZV.out.cell 1 (by decide)
              have f0 := HZV.out.frozen 0
              have f1 := HZV.out.frozen 1
              by_cases hfr : FrOk N slo
              · rw [decide_eq_true hfr]
                obtain ⟨hf0, hf1⟩ := hfr
                obtain ⟨F, rfl⟩ : ∃ F : Nat, slo = F := ⟨slo.toNat, by omega⟩
                have hFN : F < N := by omega
                have hgF : g F = (p, x) := by rw [← HPX.out]; unfold rgO; rw [if_pos ⟨by omega, by omega⟩, Int.toNat_natCast]
                obtain ⟨r0, r1⟩ := HRV.out.at hFN hgF
                obtain ⟨cpV, cR⟩ := HRV.out.c0
                have c1 : V0.cell? ⟨ob, 1, none⟩ = some (.int .i64 F) := HOV.out.cell 1 (by decide)
                clear hgF hf0
                go_wp2_with (fail)
                refine still_tailS 8 (by kernel_rfl) (by kernel_rfl) ?_
                simp only [List.take_succ_cons, List.take_zero, List.drop_succ_cons, List.drop_zero]
                repeat still_step
                refine wpStill_nil ?_
                have HZ2 := Lib.hid (HZV.out.later (Below.refl _ _).drew)
                have HB2 := Lib.hid (HBV.out.drew)
                clear z0 z1 f0 f1 c1 cR r0 r1
                generalize V0.drew = V2 at *
                have z0 : V2.cell? ⟨wb, 0, none⟩ = some (.int .i64 0) := HZ2.out.cell 0 (by decide)
                have z1 : V2.cell? ⟨wb, 1, none⟩ = some (.int .i64 0) := HZ2.out.cell 1 (by decide)
                have f0 := HZ2.out.frozen 0
                have f1 := HZ2.out.frozen 1
                have HBE := Lib.hid ((HB2.out.setCell (p := ⟨wb, 0, none⟩) (Nat.le_refl _) (.int .i64 p)).setCell (p := ⟨wb, 1, none⟩) (Nat.le_refl _) (.int .i64 x))
                have HZE := Lib.hid (((HZ2.out.setCell 0 (.int .i64 p)).setCell 1 (.int .i64 x)).ext (g := fun i => if i = 0 then .int .i64 p else .int .i64 x) (fun i hi => by
                  rcases (show i = 0 ∨ i = 1 by omega) with rfl | rfl <;> simp [updV]))
                go_wp2_with (fail)
                go_meet
                exact ⟨HBE, HZE⟩
              · rw [decide_eq_false hfr]
                have hpx : (0, 0) = (p, x) := by rw [← HPX.out]; unfold rgO; rw [if_neg hfr]
                cases hpx
                have HZE := Lib.hid (HZV.out.ext (g := fun i => if i = 0 then .int .i64 ((0 : Nat) : Int) else .int .i64 ((0 : Nat) : Int)) (fun i hi => by
                  rcases (show i = 0 ∨ i = 1 by omega) with rfl | rfl <;> rfl))
                clear z0 z1 f0 f1
                go_wp2_with (fail)
                go_meet
                exact ⟨HBV, HZE⟩
            case rest =>
              obtain ⟨hbd, hwd⟩ := hcut
              have HCD := Lib.hid (HC9.out.later (by rw [hwb]; exact hbd.out))
              have HWD := hwd
              have HWLE := Lib.hid (show wa.heap.size ≤ wb from by rw [← hwb]; exact HC9.out.kp.bel.size)
              clear hbd HZV HBV HRV HOV HC9 HPX
              generalize decide (FrOk N slo) = bb at *
              have HRA := Lib.hid (rall_any HCD.out.kp.ref_pd HN.out)
              obtain ⟨L, hL⟩ : ∃ L, allL g N = L := ⟨_, rfl⟩
              have HLL := Lib.hid (show L.length ≤ 1024 ∧ cntB (ownB g) N = L.length from by
                rw [← hL]
                exact ⟨Nat.le_trans (allL_le g N) HN.out, (allL_len g N).symm⟩)
              rw [hL] at HRA
              go_wp2_with (fail)
              refine HRA.out.mono ?_
              rintro e w1 ⟨v, rfl, hown, hb⟩
              obtain ⟨la2, lc, rfl⟩ := own_sliceI hown
              have HA1 := Lib.hid (HCD.out.later hb)
              have HW1 := Lib.hid (HWD.out.later hb)
              have HOW1 := Lib.hid (owns_base (base' := wc.heap.size) hown (fun _ h => (hown.lt _ h).1))
              clear hown hb HRA HCD HWD
              have hb2 := (Below.refl w1.heap.size w1).alloc (Nat.le_refl _) (.cells #[.slice la2 L.length lc] 43)
              have HA2 := Lib.hid (HA1.out.later hb2)
              have HW2 := Lib.hid (HW1.out.later hb2)
              have HOW2 := Lib.hid (owns_later HOW1.out hb2)
              have HAB2 := Lib.hid (RowAt.new w1 #[.slice la2 L.length lc] 43 1 (fun _ => .slice la2 L.length lc) (fun i hi => by
                obtain rfl : i = 0 := by omega
                rfl))
              have HOL := Lib.hid (show ∀ k, (Value.slice la2 L.length lc).ownBlock = some k → k < w1.heap.size from fun k hk => (HOW1.out.lt k hk).2)
              have HWL := Lib.hid HA1.out.kp.bel.size
              clear HA1 HW1 HOW1 hb2
              go_upto_region 33 with (fail)
              generalize w1.alloc (.cells #[.slice la2 L.length lc] 43) = w2 at *
              generalize hab : w1.heap.size = ab at *
              have hw0 := HW2.out.cell 0 (by decide)
              have hw1 := HW2.out.cell 1 (by decide)
              simp only [if_pos] at hw0
              have hw1 : w2.cell? ⟨wb, 1, none⟩ = some (.int .i64 x) := hw1
              have hwa2 := HAB2.out.cell 0 (by decide)
              have Lp := Lib.hid (show ∀ W, Kept w2.heap.size w2 W → (loadVar 3 ⟨wb, 0, none⟩).run Try.prog W = .ok (.int .i64 p) W from fun W hW => run_loadVar_cell (fun _ => by kernel_rfl) (by rw [hW.cell (World.block_lt_of_cell? _ _ hw0)]; exact hw0))
              have Lx := Lib.hid (show ∀ W, Kept w2.heap.size w2 W → (loadVar 3 ⟨wb, 1, none⟩).run Try.prog W = .ok (.int .i64 x) W from fun W hW => run_loadVar_cell (fun _ => by kernel_rfl) (by rw [hW.cell (World.block_lt_of_cell? _ _ hw1)]; exact hw1))
              have La := Lib.hid (show ∀ W, Kept w2.heap.size w2 W → (loadVar 43 ⟨ab, 0, none⟩).run Try.prog W = .ok (.slice la2 L.length lc) W from fun W hW => run_loadVar_cell (fun _ => by kernel_rfl) (by rw [hW.cell (World.block_lt_of_cell? _ _ hwa2)]; exact hwa2))
              have HUS := Lib.hid (show ∀ W, Kept w2.heap.size w2 W → Calls Try.prog 19 #[.pointer (some ⟨d', 0, none⟩)] W fun e w' => e = .returned (.int .i64 L.length) ∧ Below W.heap.size W w' from fun W hW => used_sl ok (HA2.out.kp.later hW.below).one_pd L.length HLL.out.2)
              have HBX := Lib.hid (show ((p : Int) != 0) = b from by
                rw [← HBB.out]
                by_cases h : p = 0
                · subst h; rfl
                · rw [decide_eq_true h]; simp; omega)
              have HALL := Lib.hid hL
              clear hw0 hw1 hwa2 hL
              refine wp_region_lex (Kept w2.heap.size w2) [(0, false), (1, false), (2, false), (3, false), (4, false), (5, false), (6, false), (7, false), (8, false), (9, false), (10, false), (11, false), (12, false), (13, false), (14, false), (15, false), (16, false), (17, false), (18, false), (20, false), (21, false), (19, true), (22, false), (23, false)] (by kernel_rfl) (by kernel_rfl) rfl (by kernel_rfl) (Below.refl _ w2).drew ?_
              intro W0 hK0
              refine lexH_yieldE rfl rfl ?_
              apply Exists.intro
              refine ⟨fun W hW => ?_, ?_⟩
              focus (go_simp; exact rfl)
              simp only [List.getElem_toArray, List.getElem_cons_zero, Act.put, List.setIfInBounds_toArray, List.set_cons_zero, List.set_cons_succ]
              refine lexH_yieldE rfl rfl ?_
              apply Exists.intro
              refine ⟨fun W hW => ?_, ?_⟩
              focus (go_simp; exact rfl)
              simp only [List.getElem_toArray, List.getElem_cons_succ, List.getElem_cons_zero, Act.put, List.setIfInBounds_toArray, List.set_cons_zero, List.set_cons_succ]
              refine lexH_load rfl rfl _ _ rfl rfl Lp.out ?_
              simp only [List.getElem_toArray, List.getElem_cons_succ, List.getElem_cons_zero, Act.put, List.setIfInBounds_toArray, List.set_cons_zero, List.set_cons_succ]
              refine lexH_yieldE rfl rfl ?_
              apply Exists.intro
              refine ⟨fun W hW => ?_, ?_⟩
              focus (go_simp; exact rfl)
              simp only [List.getElem_toArray, List.getElem_cons_succ, List.getElem_cons_zero, Act.put, List.setIfInBounds_toArray, List.set_cons_zero, List.set_cons_succ]
              refine lexH_yieldE rfl rfl ?_
              apply Exists.intro
              refine ⟨fun W hW => ?_, ?_⟩
              focus (go_simp; exact rfl)
              simp only [List.getElem_toArray, List.getElem_cons_succ, List.getElem_cons_zero, Act.put, List.setIfInBounds_toArray, List.set_cons_zero, List.set_cons_succ]
              refine lexH_yieldE rfl rfl ?_
              apply Exists.intro
              refine ⟨fun W hW => ?_, ?_⟩
              focus (go_simp; exact rfl)
              simp only [List.getElem_toArray, List.getElem_cons_succ, List.getElem_cons_zero, Act.put, List.setIfInBounds_toArray, List.set_cons_zero, List.set_cons_succ]
              refine lexH_yieldE rfl rfl ?_
              apply Exists.intro
              refine ⟨fun W hW => ?_, ?_⟩
              focus (go_simp; exact rfl)
              simp only [List.getElem_toArray, List.getElem_cons_succ, List.getElem_cons_zero, Act.put, List.setIfInBounds_toArray, List.set_cons_zero, List.set_cons_succ]
              refine lexH_load rfl rfl _ _ rfl rfl Lx.out ?_
              simp only [List.getElem_toArray, List.getElem_cons_succ, List.getElem_cons_zero, Act.put, List.setIfInBounds_toArray, List.set_cons_zero, List.set_cons_succ]
              refine lexH_yieldE rfl rfl ?_
              apply Exists.intro
              refine ⟨fun W hW => ?_, ?_⟩
              focus (go_simp; exact rfl)
              simp only [List.getElem_toArray, List.getElem_cons_succ, List.getElem_cons_zero, Act.put, List.setIfInBounds_toArray, List.set_cons_zero, List.set_cons_succ]
              refine lexH_yieldE rfl rfl ?_
              apply Exists.intro
              refine ⟨fun W hW => ?_, ?_⟩
              focus (go_simp; exact rfl)
              simp only [List.getElem_toArray, List.getElem_cons_succ, List.getElem_cons_zero, Act.put, List.setIfInBounds_toArray, List.set_cons_zero, List.set_cons_succ]
              refine lexH_yieldE rfl rfl ?_
              apply Exists.intro
              refine ⟨fun W hW => ?_, ?_⟩
              focus (go_simp; exact rfl)
              simp only [List.getElem_toArray, List.getElem_cons_succ, List.getElem_cons_zero, Act.put, List.setIfInBounds_toArray, List.set_cons_zero, List.set_cons_succ]
              refine lexH_yieldE rfl rfl ?_
              apply Exists.intro
              refine ⟨fun W hW => ?_, ?_⟩
              focus (go_simp; exact rfl)
              simp only [List.getElem_toArray, List.getElem_cons_succ, List.getElem_cons_zero, Act.put, List.setIfInBounds_toArray, List.set_cons_zero, List.set_cons_succ]
              refine lexH_yieldE rfl rfl ?_
              apply Exists.intro
              refine ⟨fun W hW => ?_, ?_⟩
              focus (go_simp; exact rfl)
              simp only [List.getElem_toArray, List.getElem_cons_succ, List.getElem_cons_zero, Act.put, List.setIfInBounds_toArray, List.set_cons_zero, List.set_cons_succ]
              refine lexH_load rfl rfl _ _ rfl rfl Lp.out ?_
              simp only [List.getElem_toArray, List.getElem_cons_succ, List.getElem_cons_zero, Act.put, List.setIfInBounds_toArray, List.set_cons_zero, List.set_cons_succ]
              refine lexH_yield rfl rfl (v := .bool b) (fun W hW => by go_simp; first | exact HBX.out | simp [HBX.out] | (have := HBX.out; simp_all)) ?_
              simp only [List.getElem_toArray, List.getElem_cons_succ, List.getElem_cons_zero, Act.put, List.setIfInBounds_toArray, List.set_cons_zero, List.set_cons_succ]
              refine lexH_yieldE rfl rfl ?_
              apply Exists.intro
              refine ⟨fun W hW => ?_, ?_⟩
              focus (go_simp; exact rfl)
              simp only [List.getElem_toArray, List.getElem_cons_succ, List.getElem_cons_zero, Act.put, List.setIfInBounds_toArray, List.set_cons_zero, List.set_cons_succ]
              refine lexH_yieldE rfl rfl ?_
              apply Exists.intro
              refine ⟨fun W hW => ?_, ?_⟩
              focus (go_simp; exact rfl)
              simp only [List.getElem_toArray, List.getElem_cons_succ, List.getElem_cons_zero, Act.put, List.setIfInBounds_toArray, List.set_cons_zero, List.set_cons_succ]
              refine lexH_yieldE rfl rfl ?_
              apply Exists.intro
              refine ⟨fun W hW => ?_, ?_⟩
              focus (go_simp; exact rfl)
              simp only [List.getElem_toArray, List.getElem_cons_succ, List.getElem_cons_zero, Act.put, List.setIfInBounds_toArray, List.set_cons_zero, List.set_cons_succ]
              refine lexH_yieldE rfl rfl ?_
              apply Exists.intro
              refine ⟨fun W hW => ?_, ?_⟩
              focus (go_simp; exact rfl)
              simp only [List.getElem_toArray, List.getElem_cons_succ, List.getElem_cons_zero, Act.put, List.setIfInBounds_toArray, List.set_cons_zero, List.set_cons_succ]
              refine lexH_load rfl rfl _ _ rfl rfl La.out ?_
              simp only [List.getElem_toArray, List.getElem_cons_succ, List.getElem_cons_zero, Act.put, List.setIfInBounds_toArray, List.set_cons_zero, List.set_cons_succ]
              refine lexH_yieldE rfl rfl ?_
              apply Exists.intro
              refine ⟨fun W hW => ?_, ?_⟩
              focus (go_simp; exact rfl)
              simp only [List.getElem_toArray, List.getElem_cons_succ, List.getElem_cons_zero, Act.put, List.setIfInBounds_toArray, List.set_cons_zero, List.set_cons_succ]
              refine lexH_call 19 #[.pointer (some ⟨d', 0, none⟩)] rfl rfl ?_ ?_
              focus (go_simp; done)
              refine (HUS.out W0 hK0).mono ?_
              rintro e w3 ⟨rfl, hb⟩
              have hK3 := hK0.call (Nat.le_refl _) hb
              refine ⟨_, rfl, hK3, ?_⟩
              simp only [List.getElem_toArray, List.getElem_cons_succ, List.getElem_cons_zero, Act.put, List.setIfInBounds_toArray, List.set_cons_zero, List.set_cons_succ]
              refine lexH_yieldE rfl rfl ?_
              apply Exists.intro
              refine ⟨fun W hW => ?_, ?_⟩
              focus (go_simp; exact rfl)
              simp only [List.getElem_toArray, List.getElem_cons_succ, List.getElem_cons_zero, Act.put, List.setIfInBounds_toArray, List.set_cons_zero, List.set_cons_succ]
              refine lexH_yieldE rfl rfl ?_
              apply Exists.intro
              refine ⟨fun W hW => ?_, ?_⟩
              focus (go_simp; exact rfl)
              simp only [List.getElem_toArray, List.getElem_cons_succ, List.getElem_cons_zero, Act.put, List.setIfInBounds_toArray, List.set_cons_zero, List.set_cons_succ]
              refine lexH_nil ?_
              have HA3 := Lib.hid (HA2.out.later hK3.below)
              have HAB3 := Lib.hid (HAB2.out.later hK3.below)
              have HOW3 := Lib.hid (owns_later HOW2.out hK3.below)
              have HSZ := Lib.hid (show ab < w3.heap.size from by have := HAB2.out.lt; have := hK3.below.size; omega)
              clear hb hK3 hK0 HA2 HW2 HAB2 HOW2 Lp Lx La HUS HBX
              have hb4 := (Below.refl w3.heap.size w3).alloc (Nat.le_refl _) (.cells #[.int .i64 0] 3)
              have HA4 := Lib.hid (HA3.out.add (Q' := fun k => k = w3.heap.size) hb4 (fun k hk => .inr ⟨Nat.le_of_eq hk.symm, by rw [hk]; simp⟩))
              have HAB4 := Lib.hid (HAB3.out.later hb4)
              have HOW4 := Lib.hid (owns_later HOW3.out hb4)
              have HNB4 := Lib.hid (bx_new w3 0 3)
              clear HA3 HAB3 HOW3 hb4
              go_wp2_with (fail)
              generalize w3.alloc (.cells #[.int .i64 0] 3) = w4 at *
              generalize hnb : w3.heap.size = nb at *
              obtain ⟨_, ⟨X, rfl, hX⟩, hA, hB, hP4, _⟩ := HA4.out.kp
              have HX := Lib.hid hX
              have HXA := Lib.hid hA.1
              have HXN := Lib.hid (show ∀ k, X.has k → k ≠ nb from fun k hk e => (hP4 k (.inl hk)).2 (.inr e))
              have HXW := Lib.hid (fun k hk => X.lt w4 hA.1 k hk)
              clear hX hA hB hP4
              refine (ok.all HX.out HXA.out).mono ?_
              rintro e w5 ⟨g0, lb0, own0, rfl, hb, _, hnil0, _, _⟩
              have HA5 := Lib.hid (HA4.out.later hb)
              have HOW5 := Lib.hid (owns_later HOW4.out hb)
              have HAB5 := Lib.hid (HAB4.out.later hb)
              have HNB5 := Lib.hid (HNB4.out.later hb)
              have HXA5 := Lib.hid (X.later HXA.out hb)
              clear hb HA4 HOW4 HAB4 HNB4 HXA
              go_wp2_with (fail)
              clear hnil0
              refine (ok.all HX.out HXA5.out).mono ?_
              rintro e w6 ⟨g1, lb1, own1, rfl, hb, hent1, _, hown1, hT1⟩
              have HA6 := Lib.hid (HA5.out.later hb)
              have HOW6 := Lib.hid (owns_later HOW5.out hb)
              have HAB6 := Lib.hid (HAB5.out.later hb)
              have HNB6 := Lib.hid (HNB5.out.later hb)
              have HENT := Lib.hid hent1
              have hL2 : allL g N = L := by first | assumption | exact HALL.out
              rw [hL2] at hT1
              have HT1 := Lib.hid hT1
              have HOWN := Lib.hid (show ∀ k, own1 k → k < w6.heap.size ∧ ¬ k = nb from fun k hk => by
                obtain ⟨h2, h3⟩ := hown1 k hk
                refine ⟨h3, fun e => ?_⟩
                have a1 := HNB5.out.lt
                rcases h2 with h2 | h2
                · exact HXN.out k h2 e
                · omega)
              clear hb HA5 HOW5 HAB5 HNB5 hent1 hT1 hown1 HXA5
              go_wp2_with (fail)
              have hn4 := HNB6.out.lt
              have hsq := HT1.out.solo (q - 1) (by omega) (fun k => k = nb) (fun k hk => by rw [hk]; exact hn4) HOWN.out
              have HNX := Lib.hid (show BxAt w6 nb (([] : List (Fin L.length)).length : Nat) w6 from ⟨HNB6.out, Only.refl _ _⟩)
              have HSB := Lib.hid (show w6.cell? ⟨sb, 0, none⟩ = some (.int .i64 stop) ∧ sb < nb ∧ wa.heap.size ≤ nb ∧ ab < nb from by
                have a1 := HA6.out.kp.bel.size
                have a3 := HSA.out
                have a4 := HWL.out
                have a5 := HSZ.out
                exact ⟨(HRS.out.below HA6.out.kp.bel (by omega)).cell 0 (by decide), by omega, by omega, by omega⟩)
              clear HOWN HNB6
              refine (wpIn_wide (n := q)).1 ?_
              refine range_b1 rfl h1 (gf := g1) (lb := lb1) (by simp [go_sem]) trivial HENT.out hsq (fun x => .int .i64 ((L[x.val]'x.isLt) : Nat)) (fun x => rfl) KpZ.trans (fun W l o o' _ _ _ => KpZ.put W l o') (fun pre W => BxAt w6 nb (pre.length : Nat) W)
                (fun pre W => BxAt w6 nb (pre.length : Nat) W ∧ ((pre.length : Nat) : Int) = stop) (bx_own (n := fun (pre : List (Fin L.length)) => (pre.length : Nat)) hn4) (fun s X Y row h hg hr => ⟨bx_own (n := fun (pre : List (Fin L.length)) => (pre.length : Nat)) hn4 s X Y row h.1 hg hr, h.2⟩) HNX.out 23 _ ?assign1 ?body1 ?done1
              case assign1 =>
                intro l' pre x V K hl' hI hK
                have HK := Lib.hid hK
                have HI2 := Lib.hid hI
                clear hK hI hsq
                gi_wp2_with (fail)
                have h9 := HK.out V (KeepsFrom.refl _ _) HI2.out (KpZ.of_below (Below.refl _ _))
                simpa using h9
              case body1 =>
                rintro l' pre x U0 V hl' hI hk0 hlen2
                obtain ⟨hxl, _⟩ := next_of_some hlen2
                have HK0 := Lib.hid hk0
                have hpl : pre.length < L.length := by rw [← hxl]; exact x.isLt
                obtain ⟨y, hy⟩ : ∃ y, L[pre.length]'hpl = y := ⟨_, rfl⟩
                have hq2 : L[x.val]'x.isLt = y := by rw [← hy]; exact getElem_congr_idx hxl
                have hOV := owns_only HOW6.out hI.only (fun k hk h => by have := HOL.out k hk; have := HSB.out; omega)
                obtain ⟨gb2, e2, r0⟩ := own_in hOV pre.length hpl
                rw [hy] at r0
                simp only [hq2]
                have kn : V.cell? ⟨nb, 0, none⟩ = some (.int .i64 (pre.length : Nat)) := hI.row.cell 0 (by decide)
                have kf : V.frozen? ⟨nb, 0, none⟩ = false := hI.row.frozen 0
                have ka : V.cell? ⟨ab, 0, none⟩ = some (.slice la2 L.length lc) := hI.only.cell (by have := HSB.out; omega) (HAB6.out.cell 0 (by decide))
                have ks : V.cell? ⟨sb, 0, none⟩ = some (.int .i64 stop) := hI.only.cell (by have := HSB.out.2.1; omega) HSB.out.1
                have HNX3 := Lib.hid (hI.step ((pre ++ [x]).length : Nat))
                have hl2 : (((pre ++ [x]).length : Nat) : Int) = (pre.length : Int) + 1 := by simp
                have HL2 := Lib.hid hl2
                rw [hl2] at HNX3
                have hpl2 : ¬ (L.length : Int) ≤ (pre.length : Nat) := by omega
                have hpl3 : ((pre.length : Nat) : Int) < L.length := by omega
                have hll := HLL.out.1
                subst e2
                clear hsq hk0 hI hxl hlen2 hy hq2 hOV hl2
                generalize hjl : pre.length = j at *
                have HJL := Lib.hid hjl
                clear hjl
                have hne1 : ¬ sb = nb := by have := HSB.out.2.1; omega
                by_cases hst : (j : Int) + 1 = stop
                · subst hst
                  gi_wp2_with (fail)
                  have HON := Lib.hid (show Only (fun k => k = nb) V (V.setCell ⟨nb, 0, none⟩ (.int .i64 ((j : Int) + 1))) from Only.setCell (S := fun k => k = nb) _ ⟨nb, 0, none⟩ rfl _)
                  refine ⟨⟨HON.out.size, fun i o hB hi hc => (HON.out.block i (Array.getElem?_eq_some_iff.1 hi).1 (by omega)).trans hi⟩, HK0.out.trans (KpZ.of_only HON.out), rfl, ?_, ?_⟩
                  · rw [HL2.out]
                    exact HNX3.out
                  · rw [HL2.out]
                · gi_wp2_with (fail)
                  have HON := Lib.hid (show Only (fun k => k = nb) V (V.setCell ⟨nb, 0, none⟩ (.int .i64 ((j : Int) + 1))) from Only.setCell (S := fun k => k = nb) _ ⟨nb, 0, none⟩ rfl _)
                  refine ⟨⟨HON.out.size, fun i o hB hi hc => (HON.out.block i (Array.getElem?_eq_some_iff.1 hi).1 (by omega)).trans hi⟩, HK0.out.trans (KpZ.of_only HON.out), ?_⟩
                  show BxAt w6 nb (((pre ++ [x]).length : Nat) : Int) _
                  rw [HL2.out]
                  exact HNX3.out
              case done1 =>
                rintro D xs V hD hxs hDk
                have hbx : BxAt w6 nb (xs.length : Nat) V ∧ (xs.length = L.length ∨ ¬ xs.length = L.length ∧ ((xs.length : Nat) : Int) = stop) := by
                  rcases hxs with ⟨h2, h3⟩ | ⟨_, h3, h4⟩
                  · have := congrArg List.length h2
                    rw [List.length_map, List.length_range] at this
                    exact ⟨h3, .inl this⟩
                  · by_cases h5 : xs.length = L.length
                    · exact ⟨h3, .inl h5⟩
                    · exact ⟨h3, .inr ⟨h5, h4⟩⟩
                clear hxs
                obtain ⟨hI, hm⟩ := hbx
                generalize xs.length = m at *
                have kn : V.cell? ⟨nb, 0, none⟩ = some (.int .i64 m) := hI.row.cell 0 (by decide)
                have ka : V.cell? ⟨ab, 0, none⟩ = some (.slice la2 L.length lc) := hI.only.cell (by have := HSB.out; omega) (HAB6.out.cell 0 (by decide))
                have ks : V.cell? ⟨sb, 0, none⟩ = some (.int .i64 stop) := hI.only.cell (by have := HSB.out.2.1; omega) HSB.out.1
                have hne : nb ∉ Ds := fun h => by
                  obtain ⟨a1, _⟩ := HA6.out.ds nb h
                  obtain ⟨A, t, hA, _⟩ := HNX.out.row
                  rw [hA] at a1
                  cases a1
                have HA7 := Lib.hid (HA6.out.more (Q' := fun _ => False) hI.only (fun k hk => ⟨hk, by rw [hk]; exact HSB.out.2.2.1, by rw [hk]; exact hne⟩) hD hDk (fun _ h => h.elim))
                clear hsq hI hDk HNX HT1 HENT HA6 hne HOW6 HAB6 HSB
                have hklen := HLT.out
                rcases hm with hm | ⟨hm, hst⟩
                · subst hm
                  go_wp2_with (fail)
                  first | exact ⟨len - (k + 1), by omega, k + 1, d', g, D :: Ds, rfl, by omega, rfl, rfl, rfl, rfl, rfl, rfl, rfl, rfl, rfl, HA7.out⟩ | exact ⟨len - (k + 1), by omega, k + 1, d', rfl, by omega, rfl, by omega, g, D :: Ds, rfl, HA7.out⟩
                · have hmb : ((m : Int) != (L.length : Int)) = true := by simp; omega
                  have hmc : ((m : Int) == (L.length : Int)) = false := by simp; omega
                  subst hst
                  go_wp2_with (fail)
                  first | exact ⟨len - (k + 1), by omega, k + 1, d', g, D :: Ds, rfl, by omega, rfl, rfl, rfl, rfl, rfl, rfl, rfl, rfl, rfl, HA7.out⟩ | exact ⟨len - (k + 1), by omega, k + 1, d', rfl, by omega, rfl, by omega, g, D :: Ds, rfl, HA7.out⟩
    · obtain rfl : k = len := by omega
      go_wp2_with (fail)
      refine (sknown_any ok _).mono ?_
      rintro e w8 ⟨rfl, hb⟩
      have HA8 := Lib.hid (HA.out.later hb)
      have HB8 := Lib.hid HA8.out.kp.bel
      have hsa := HSA.out
      have HRC8 := Lib.hid (HRC.out.below HB8.out (by omega))
      clear hb HA
      have cr : w8.cell? ⟨rc, 0, none⟩ = some (.bool false) := HRC8.out.cell 0 (by decide)
      have fr : w8.frozen? ⟨rc, 0, none⟩ = false := HRC8.out.frozen 0
      have HRC9 := Lib.hid (HRC8.out.setCell 0 (.bool true))
      have HB9 := Lib.hid ((HB0.out.trans (HB8.out.mono (by omega))).setCell (p := ⟨rc, 0, none⟩) (by show sb ≤ rc; omega) (.bool true))
      have HDS := Lib.hid (show ∀ D ∈ Ds, rc ≠ D from fun D hD e => by have := (HA8.out.ds D hD).2; omega)
      go_wp2_with (fail)
      refine leaves_many Ds _ HA8.out.nd (fun D hD => ?_) (fun W' ho2 hs2 => ⟨.bool true, ?_, rfl, ?_⟩)
      · rw [Below.heap_setCell _ _ _ _ (fun e => HDS.out D hD e.symm)]
        exact (HA8.out.ds D hD).1
      · have hc := ho2.cell (b := rc) (o := 0) (v := .bool true) (fun hD => HDS.out _ hD rfl) (HRC9.out.cell 0 (by decide))
        simp [results, Try.f3, go_sem, hc]
      · rw [hsb]
        have hsz := HB9.out.size
        rw [hsb] at hsz
        exact ho2.below HB9.out hsz (fun D hD => by have := (HA8.out.ds D hD).2; omega)
  · have h2 : (200 : Int) < len := by omega
    have hd2 : decide (200 < len) = true := decide_eq_true (by omega)
    go_wp2_with (fail)
    clear hwa
    refine (sknown_any ok wa).mono ?_
    rintro e w4 ⟨rfl, hb⟩
    have HB4 := Lib.hid (HB0.out.trans (hb.mono HB0.out.size))
    have HRC4 := Lib.hid (HRC.out.later hb)
    clear hb
    have cr : w4.cell? ⟨w.heap.size + 1, 0, none⟩ = some (.bool false) := HRC4.out.cell 0 (by decide)
    have fr : w4.frozen? ⟨w.heap.size + 1, 0, none⟩ = false := HRC4.out.frozen 0
    have HRC5 := Lib.hid (HRC4.out.setCell 0 (.bool true))
    have HB5 := Lib.hid (HB4.out.setCell (p := ⟨w.heap.size + 1, 0, none⟩) (by show w.heap.size ≤ w.heap.size + 1; omega) (.bool true))
    go_wp2_with (fail)
    refine ⟨.bool true, ?_, rfl, HB5.out⟩
    have hc := HRC5.out.cell 0 (by decide)
    simp [results, Try.f3, go_sem, hc, updV]
theorem lawSPlays_any (n0 stop : Int) (a : Option Addr) (len cap : Nat) (O : Nat → OpA) (w : World) (hI : InZ n0) (hO : OpsAt w a len O) :
    Calls Try.prog 3 #[.int .i64 n0, .slice a len cap, .int .i64 stop] w fun e w' => e = .returned (.bool true) ∧ Below w.heap.size w w' :=
  callsIn_wide.1 (lawSPlays_in ok 8 (Nat.le_refl _) n0 stop a len cap O w hI hO)
end
end Go.Proofs.Ytenfeamohcclaaa
