/-
  Texts that this claim builds on, merged.
-/
import Derived.Test.YtdpnmjlapgldgaaM02
namespace Go.Proofs.Ytdpnmjlapgldgaa
/-! buddy's document: Take. -/
section
open Go.RowKit Go

/-- Which of the first k free blocks is to be cut; -1 without one. -/
def pickK (L : List (Int × Int)) (order : Int) (high : Bool) : Nat → Int
  | 0 => -1
  | k + 1 => if (L.getD k (0, 0)).2 < order then pickK L order high k
    else if pickK L order high k < 0 ∨ (L.getD k (0, 0)).2 < (L.getD (pickK L order high k).toNat (0, 0)).2 ∨ (high = true ∧ (L.getD k (0, 0)).2 = (L.getD (pickK L order high k).toNat (0, 0)).2) then k else pickK L order high k
theorem pick_in (L : List (Int × Int)) (order : Int) (high : Bool) : ∀ k, pickK L order high k = -1 ∨ ∃ j : Nat, pickK L order high k = j ∧ j < k ∧ order ≤ (L.getD j (0, 0)).2
  | 0 => .inl rfl
  | k + 1 => by
    have ih := pick_in L order high k
    unfold pickK
    by_cases h1 : (L.getD k (0, 0)).2 < order
    · rw [if_pos h1]
      rcases ih with h | ⟨j, h, h2, h3⟩
      · exact .inl h
      · exact .inr ⟨j, h, by omega, h3⟩
    · rw [if_neg h1]
      split
      · exact .inr ⟨k, rfl, by omega, by omega⟩
      · rcases ih with h | ⟨j, h, h2, h3⟩
        · exact .inl h
        · exact .inr ⟨j, h, by omega, h3⟩
/-- A block cut over d orders down to the one that is asked. -/
def splitL (high : Bool) (order : Nat) : Nat → List (Int × Int) → Int → List (Int × Int) × Int
  | 0, L, x => (L, x)
  | d + 1, L, x => if high = true then splitL high order d (putL L (x, ((order + d : Nat) : Int))) (x + ((2 ^ (order + d) : Nat) : Int)) else splitL high order d (putL L (x + ((2 ^ (order + d) : Nat) : Int), ((order + d : Nat) : Int))) x
/-- What Take answers, and what it leaves. -/
def takeS (L T : List (Int × Int)) (order : Int) (high : Bool) : Int × Int × List (Int × Int) × List (Int × Int) :=
  if 0 ≤ order ∧ order ≤ 10 then
    if pickK L order high L.length < 0 then (0, 6, L, T)
    else
      ((splitL high order.toNat ((L.getD (pickK L order high L.length).toNat (0, 0)).2.toNat - order.toNat) (dropL L (L.getD (pickK L order high L.length).toNat (0, 0))) (L.getD (pickK L order high L.length).toNat (0, 0)).1).2, 0,
       (splitL high order.toNat ((L.getD (pickK L order high L.length).toNat (0, 0)).2.toNat - order.toNat) (dropL L (L.getD (pickK L order high L.length).toNat (0, 0))) (L.getD (pickK L order high L.length).toNat (0, 0)).1).1,
       T ++ [((splitL high order.toNat ((L.getD (pickK L order high L.length).toNat (0, 0)).2.toNat - order.toNat) (dropL L (L.getD (pickK L order high L.length).toNat (0, 0))) (L.getD (pickK L order high L.length).toNat (0, 0)).1).2, order)])
  else (0, 2, L, T)
/-- Blocks that lie within some node. -/
def GoodL (L : List (Int × Int)) : Prop := ∀ p ∈ L, 0 ≤ p.1 ∧ p.1 + ((2 ^ p.2.toNat : Nat) : Int) ≤ 4000 ∧ 0 ≤ p.2 ∧ p.2 ≤ 10
theorem putL_len (L : List (Int × Int)) (x : Int × Int) : (putL L x).length = L.length + 1 := by
  have h := putS_len L x L.length (Nat.le_refl _)
  unfold putL
  by_cases hd : (putS L x L.length).2 = true
  · rw [if_pos hd] at h ⊢; exact h
  · rw [if_neg hd] at h
    rw [if_neg hd, List.length_append, h]; rfl
theorem getD_at {L : List (Int × Int)} {k : Nat} (h : k < L.length) : L.getD k (0, 0) = L[k] := by
  rw [List.getD_eq_getElem?_getD, List.getElem?_eq_getElem h]; rfl
theorem store_block (w : World) (Z : Array Value) (hz : Z.size = 2) (x y : Int) :
    (storeVar 77 ⟨w.heap.size, 0, none⟩ (.agg #[.int .i64 x, .int .i64 y])).run Try.prog (w.alloc (.cells Z 77)) = .ok () (w.alloc (.cells #[.int .i64 x, .int .i64 y] 77)) :=
  run_storeVar_new (P := Try.prog) w 77 Z _ sizeBlock hz (by simp [Value.oneCell'])
theorem two_all (x y : Int) : (#[Value.int .i64 x, .int .i64 y] : Array Value).all (·.oneCell') = true := by simp [Value.oneCell']
def blkV (x y : Int) (i : Nat) : Value := if i = 0 then .int .i64 x else .int .i64 y
theorem block_row (w : World) (x y : Int) : RowAt (w.alloc (.cells #[.int .i64 x, .int .i64 y] 77)) w.heap.size 2 (blkV x y) :=
  RowAt.new w _ _ _ _ fun i hi => by
    rcases (show i = 0 ∨ i = 1 by omega) with rfl | rfl <;> rfl

theorem block_src {w : World} {b : Nat} {x y : Int} (R : RowAt w b 2 (blkV x y)) : ∀ (j : Nat) (u : Value), (encB (x, y))[j]? = some u → w.cell? ((⟨b, 0, none⟩ : Addr).add j) = some u := fun j u hj => by
  rw [Addr.add_lit, Nat.zero_add]
  match j, hj with
  | 0, hj => simp [encB] at hj; subst hj; exact R.cell 0 (by decide)
  | 1, hj => simp [encB] at hj; subst hj; exact R.cell 1 (by decide)
/-- The node while a block is cut: the block at xb, the free ones behind it. -/
structure TkAt (w : World) (r n xb : Nat) (L T : List (Int × Int)) (u : Value) (x y : Int) (wr : World) : Prop where
  fr : ∃ a c, RowAt wr r 3 (brV n (.slice a L.length c) u) ∧ RecsAt wr (xb + 1) a encB 2 L
  box : RowAt wr xb 2 (blkV x y)
  tk : ∃ b d, u = .slice b T.length d ∧ RecsAt w (r + 1) b encB 2 T
  only : Only (fun k => k = r ∨ w.heap.size ≤ k) w wr
  xb1 : w.heap.size ≤ xb
  r1 : r < w.heap.size
section
variable {w wr w' : World} {r n xb : Nat} {L T : List (Int × Int)} {u : Value} {x y : Int}
theorem RecsAt.old {α : Type} {enc : α → List Value} {s : Nat} {a : Option Addr} {M : List α} (h : RecsAt w (r + 1) a enc s M) (ho : Only (fun k => k = r ∨ w.heap.size ≤ k) w w') : RecsAt w' (r + 1) a enc s M := fun hp => by
  obtain ⟨g, e, hg, hlt, A, t, hA, hi⟩ := h hp
  exact ⟨g, e, hg, Nat.lt_of_lt_of_le hlt ho.size, A, t, by rw [ho.block g hlt (by omega)]; exact hA, hi⟩
theorem TkAt.ref (K : TkAt w r n xb L T u x y wr) : ∃ v, BRef wr r n L T v u ∧ ∃ a c, v = .slice a L.length c := by
  obtain ⟨a, c, hr, hf⟩ := K.fr
  obtain ⟨b, d, e, ht⟩ := K.tk
  exact ⟨_, ⟨hr, ⟨a, c, rfl, hf.base (by have := K.xb1; have := K.r1; omega)⟩, ⟨b, d, e, ht.old K.only⟩⟩, a, c, rfl⟩
theorem TkAt.later (K : TkAt w r n xb L T u x y wr) (h : Below wr.heap.size wr w') : TkAt w r n xb L T u x y w' := by
  obtain ⟨a, c, hr, hf⟩ := K.fr
  exact ⟨⟨a, c, hr.later h, hf.later h⟩, K.box.later h, K.tk, K.only.trans (Only.of_below h), K.xb1, K.r1⟩
/-- Its block turns. -/
theorem TkAt.put (K : TkAt w r n xb L T u x y wr) {x' y' : Int} (hb : RowAt w' xb 2 (blkV x' y')) (h : Only (Eq xb) wr w') : TkAt w r n xb L T u x' y' w' := by
  obtain ⟨a, c, hr, hf⟩ := K.fr
  have h1 := K.xb1
  have h2 := K.r1
  exact ⟨⟨a, c, hr.only h (by omega), hf.above h (fun g hg e => by omega)⟩, hb, K.tk, K.only.trans ⟨h.os, h.tape, h.output, h.size, fun k hk hs => h.block k hk (fun e => hs (.inr (by omega)))⟩, K.xb1, K.r1⟩
/-- A block more is free. -/
theorem TkAt.putB (K : TkAt w r n xb L T u x y wr) {L' : List (Int × Int)} (h : PutAt wr r n L' T u w') : TkAt w r n xb L' T u x y w' := by
  obtain ⟨a, c, R, hs, ho⟩ := h
  have h1 := K.xb1
  have h2 := K.r1
  exact ⟨⟨a, c, R.row, hs.base K.box.lt⟩, K.box.only ho (by omega), K.tk, K.only.trans ⟨ho.os, ho.tape, ho.output, ho.size, fun k hk hs => ho.block k hk (fun e => hs (.inl e.symm))⟩, K.xb1, K.r1⟩
end

section
variable {w w' : World} {r n : Nat} {L T : List (Int × Int)} {v u : Value}
def BTake (w : World) (r n : Nat) (L T : List (Int × Int)) (order : Int) (high : Bool) (e : Ending) (w' : World) : Prop :=
  e = .returned (.tuple #[.int .i64 (takeS L T order high).1, .int .i64 (takeS L T order high).2.1]) ∧ ∃ v' u', BRef w' r n (takeS L T order high).2.2.1 (takeS L T order high).2.2.2 v' u' ∧ Only (Eq r) w w'
theorem BTake.same (R : BRef w r n L T v u) (hb : Below w.heap.size w w') {order : Int} {high : Bool} {k : Int} (h : takeS L T order high = (0, k, L, T)) : BTake w r n L T order high (.returned (.tuple #[.int .i64 0, .int .i64 k])) w' := by
  unfold BTake
  rw [h]
  exact ⟨rfl, v, u, R.later hb, Only.of_below hb⟩
set_option maxRecDepth 100000 in
set_option maxHeartbeats 4000000 in
theorem take_any (R : BRef w r n L T v u) (hl : L.length ≤ 400) (hT : T.length ≤ 900) (hg : GoodL L) (order : Int) (high : Bool) :
    Calls Try.prog 36 #[.pointer (some ⟨r, 0, none⟩), .int .i64 order, .bool high] w (BTake w r n L T order high) := by
  by_cases ho : 0 ≤ order ∧ order ≤ 10
  · obtain ⟨i0, hi, hz0, hz1, hz2⟩ := info_parts infoBlock
    obtain ⟨o1, o2⟩ := ho
    have HR := Lib.hid R
    obtain ⟨a, c, hv, hS⟩ := R.fr
    have HV := Lib.hid hv
    have HS := Lib.hid hS
    clear R hv hS
    go_enter Try.func36, Try.ntmps36
    go_wp2_with (fail)
    go_loopw [8, 9] (fun c i wr => ∃ k : Nat, k ≤ L.length ∧ i = .int .i64 k ∧ c = .int .i64 (pickK L order high k) ∧ Below w.heap.size w wr) (fun _ i _ => L.length - (intOf i).toNat)
    case atStart => exact ⟨0, Nat.zero_le _, rfl, rfl, Below.refl _ _⟩
    case round =>
      obtain ⟨k, hk, rfl, rfl, hB⟩ := hrel
      have HB := Lib.hid hB
      clear hB
      have c1 := (HR.out.later HB.out).c1
      rw [HV.out] at c1
      by_cases hlt : k < L.length
      -- [SCAN
      · obtain ⟨g, rfl, _, hg, hr⟩ := (HS.out.later HB.out).get encB_len k hlt
        have e0 : wr.cell? ⟨g, k * 2, none⟩ = some (.int .i64 L[k].1) := hr 0 _ rfl
        have e1 : wr.cell? ⟨g, k * 2 + 1, none⟩ = some (.int .i64 L[k].2) := hr 1 _ rfl
        have hpk := pick_in L order high k
        have HPK := Lib.hid (show pickK L order high (k + 1) = if L[k].2 < order then pickK L order high k
          else if pickK L order high k < 0 ∨ L[k].2 < (L.getD (pickK L order high k).toNat (0, 0)).2 ∨ (high = true ∧ L[k].2 = (L.getD (pickK L order high k).toNat (0, 0)).2) then k else pickK L order high k by rw [pickK, getD_at hlt])
        generalize hq : pickK L order high k = q at *
        have hb2 : Below wr.heap.size wr (wr.alloc (.cells #[.int .i64 L[k].1, .int .i64 L[k].2] 77)) := (Below.refl _ _).alloc (Nat.le_refl _) _
        have HB2 := Lib.hid (HB.out.trans (hb2.mono HB.out.size))
        have HX := Lib.hid (block_row wr L[k].1 L[k].2)
        have HST := Lib.hid (store_block wr #[.int .i64 0, .int .i64 0] rfl L[k].1 L[k].2)
        clear hr hb2 hq
        by_cases hlo : L[k].2 < order
        · have HE := Lib.hid (show pickK L order high (k + 1) = q by rw [HPK.out, if_pos hlo])
          clear hpk
          go_wp2_with (refine wpList_store_run rfl 77 _ _ rfl wr.heap.size _ _ rfl rfl HST.out ?_)
          go_roundw
          case rel => exact ⟨k + 1, hlt, by go_num, by rw [HE.out], HB2.out⟩
          case measure => simp [intOf]; omega
        · have hlo2 : order ≤ L[k].2 := by omega
          rw [if_neg hlo] at HPK
          clear hlo
          go_wp2_with (refine wpList_store_run rfl 77 _ _ rfl wr.heap.size _ _ rfl rfl HST.out ?_)
          have c1 : (wr.alloc (.cells #[.int .i64 L[k].1, .int .i64 L[k].2] 77)).cell? ⟨r, 1, none⟩ = some (.slice (some ⟨g, 0, none⟩) L.length c) := by
            rw [((Below.refl _ wr).alloc (Nat.le_refl _) _).cell (World.block_lt_of_cell? _ _ c1)]; exact c1
          have hcg : ∀ o v, wr.cell? ⟨g, o, none⟩ = some v → (wr.alloc (.cells #[.int .i64 L[k].1, .int .i64 L[k].2] 77)).cell? ⟨g, o, none⟩ = some v := fun o v h => by
            rw [((Below.refl _ wr).alloc (Nat.le_refl _) _).cell (World.block_lt_of_cell? _ _ h)]; exact h
          have HCG := Lib.hid hcg
          have HG := Lib.hid (fun (j : Nat) (hj : j < L.length) => show wr.cell? ⟨g, j * 2 + 1, none⟩ = some (.int .i64 L[j].2) from by
            obtain ⟨g', eg, _, _, hr⟩ := (HS.out.later HB.out).get encB_len j hj
            cases eg
            exact hr 1 _ rfl)
          have d1 : (wr.alloc (.cells #[.int .i64 L[k].1, .int .i64 L[k].2] 77)).cell? ⟨wr.heap.size, 1, none⟩ = some (.int .i64 L[k].2) := HX.out.cell 1 (by decide)
          clear hcg e0 e1 HST HB
          generalize wr.heap.size = xb at *
          generalize wr.alloc (.cells #[.int .i64 L[k].1, .int .i64 L[k].2] 77) = W at *
          have HB0 := Lib.hid (fun m => below_drewN (Below.refl W.heap.size W) m)
          rcases hpk with rfl | ⟨j, rfl, hj, hjo⟩
          · have HE := Lib.hid (show pickK L order high (k + 1) = (k : Int) by rw [HPK.out]; rw [if_pos (.inl (by decide))])
            clear hlo2 HPK HCG HG
            go_quiet (fail)
            have hb := HB0.out nq
            have HB3 := Lib.hid (HB2.out.trans (hb.mono HB2.out.size))
            clear hb HB0 HB2 c1 d1 HX
            go_wp2_with (fail)
            go_roundw
            case rel => exact ⟨k + 1, hlt, by go_num, by rw [HE.out], HB3.out⟩
            case measure => simp [intOf]; omega
          · have hjl : j < L.length := by omega
            have e1 : W.cell? ⟨g, j * 2 + 1, none⟩ = some (.int .i64 L[j].2) := HCG.out _ _ (HG.out j hjl)
            rw [Int.toNat_natCast, getD_at hjl] at HPK
            clear hjo HCG HG HX hg HS HV
            generalize L[k].2 = yk at *
            generalize L[j].2 = yj at *
            by_cases h1 : yk < yj
            · have HE := Lib.hid (show pickK L order high (k + 1) = (k : Int) by rw [HPK.out]; rw [if_pos (.inr (.inl h1))])
              clear hlo2 HPK
              have L1 := Lib.hid (show ∀ W', Kept W.heap.size W W' → (loadVar 3 ⟨xb, 1, none⟩).run Try.prog W' = .ok (.int .i64 yk) W' from fun W' hW => run_loadVar_cell (fun _ => by kernel_rfl) (by rw [hW.cell (World.block_lt_of_cell? _ _ d1)]; exact d1))
              have L2 := Lib.hid (show ∀ W', Kept W.heap.size W W' → (loadVar 74 ⟨r, 1, none⟩).run Try.prog W' = .ok (.slice (some ⟨g, 0, none⟩) L.length c) W' from fun W' hW => run_loadVar_cell (fun _ => by kernel_rfl) (by rw [hW.cell (World.block_lt_of_cell? _ _ c1)]; exact c1))
              have L3 := Lib.hid (show ∀ W', Kept W.heap.size W W' → (loadVar 3 ⟨g, j * 2 + 1, none⟩).run Try.prog W' = .ok (.int .i64 yj) W' from fun W' hW => run_loadVar_cell (fun _ => by kernel_rfl) (by rw [hW.cell (World.block_lt_of_cell? _ _ e1)]; exact e1))
              clear c1 d1 e1
              refine wp_region_lex1 (Kept W.heap.size W) [(0, false), (1, false), (2, false), (3, false), (4, false), (5, false), (6, false), (7, false), (8, false), (9, false), (10, false), (11, false), (12, false), (13, false), (14, false), (15, false), (16, false), (17, false), (18, false), (19, false), (20, false), (21, false), (22, false), (23, false), (24, false), (25, false), (26, false), (27, false), (28, false), (29, false), (30, false)]
                (by kernel_rfl) (by kernel_rfl) rfl (by kernel_rfl) (Below.refl _ W).drew ?_
              intro W0 hW0 hK0
              clear hW0
              refine lexH_yieldE rfl rfl ?_
              apply Exists.intro
              refine ⟨fun W hW => ?_, ?_⟩
              focus (go_simp; exact rfl)
              simp only [List.getElem_toArray, List.getElem_cons_zero, Act.put, List.setIfInBounds_toArray, List.set_cons_zero, List.set_cons_succ]
              refine lexH_yieldE rfl rfl ?_
              apply Exists.intro
              refine ⟨fun W hW => ?_, ?_⟩
              focus (go_simp; exact rfl)
              simp only [List.getElem_toArray, List.getElem_cons_succ, List.getElem_cons_zero, Act.put, List.setIfInBounds_toArray, List.set_cons_zero, List.set_cons_succ]
              refine lexH_yieldE rfl rfl ?_
              apply Exists.intro
              refine ⟨fun W hW => ?_, ?_⟩
              focus (go_simp; exact rfl)
              simp only [List.getElem_toArray, List.getElem_cons_succ, List.getElem_cons_zero, Act.put, List.setIfInBounds_toArray, List.set_cons_zero, List.set_cons_succ]
              refine lexH_yieldE rfl rfl ?_
              apply Exists.intro
              refine ⟨fun W hW => ?_, ?_⟩
              focus (go_simp; exact rfl)
              simp only [List.getElem_toArray, List.getElem_cons_succ, List.getElem_cons_zero, Act.put, List.setIfInBounds_toArray, List.set_cons_zero, List.set_cons_succ]
              refine lexH_load rfl rfl _ _ rfl rfl L1.out ?_
              simp only [List.getElem_toArray, List.getElem_cons_succ, List.getElem_cons_zero, Act.put, List.setIfInBounds_toArray, List.set_cons_zero, List.set_cons_succ]
              refine lexH_yieldE rfl rfl ?_
              apply Exists.intro
              refine ⟨fun W hW => ?_, ?_⟩
              focus (go_simp; exact rfl)
              simp only [List.getElem_toArray, List.getElem_cons_succ, List.getElem_cons_zero, Act.put, List.setIfInBounds_toArray, List.set_cons_zero, List.set_cons_succ]
              refine lexH_yieldE rfl rfl ?_
              apply Exists.intro
              refine ⟨fun W hW => ?_, ?_⟩
              focus (go_simp; exact rfl)
              simp only [List.getElem_toArray, List.getElem_cons_succ, List.getElem_cons_zero, Act.put, List.setIfInBounds_toArray, List.set_cons_zero, List.set_cons_succ]
              refine lexH_yieldE rfl rfl ?_
              apply Exists.intro
              refine ⟨fun W hW => ?_, ?_⟩
              focus (go_simp; exact rfl)
              simp only [List.getElem_toArray, List.getElem_cons_succ, List.getElem_cons_zero, Act.put, List.setIfInBounds_toArray, List.set_cons_zero, List.set_cons_succ]
              refine lexH_load rfl rfl _ _ rfl rfl L2.out ?_
              simp only [List.getElem_toArray, List.getElem_cons_succ, List.getElem_cons_zero, Act.put, List.setIfInBounds_toArray, List.set_cons_zero, List.set_cons_succ]
              refine lexH_yieldE rfl rfl ?_
              apply Exists.intro
              refine ⟨fun W hW => ?_, ?_⟩
              focus (go_simp; exact rfl)
              simp only [List.getElem_toArray, List.getElem_cons_succ, List.getElem_cons_zero, Act.put, List.setIfInBounds_toArray, List.set_cons_zero, List.set_cons_succ]
              refine lexH_yieldE rfl rfl ?_
              apply Exists.intro
              refine ⟨fun W hW => ?_, ?_⟩
              focus (go_simp; exact rfl)
              simp only [List.getElem_toArray, List.getElem_cons_succ, List.getElem_cons_zero, Act.put, List.setIfInBounds_toArray, List.set_cons_zero, List.set_cons_succ]
              refine lexH_yieldE rfl rfl ?_
              apply Exists.intro
              refine ⟨fun W hW => ?_, ?_⟩
              focus (go_simp; exact rfl)
              simp only [List.getElem_toArray, List.getElem_cons_succ, List.getElem_cons_zero, Act.put, List.setIfInBounds_toArray, List.set_cons_zero, List.set_cons_succ]
              refine lexH_load rfl rfl _ _ rfl rfl L3.out ?_
              simp only [List.getElem_toArray, List.getElem_cons_succ, List.getElem_cons_zero, Act.put, List.setIfInBounds_toArray, List.set_cons_zero, List.set_cons_succ]
              refine lexH_yieldE rfl rfl ?_
              apply Exists.intro
              refine ⟨fun W hW => ?_, ?_⟩
              focus (go_simp; exact rfl)
              simp only [List.getElem_toArray, List.getElem_cons_succ, List.getElem_cons_zero, Act.put, List.setIfInBounds_toArray, List.set_cons_zero, List.set_cons_succ]
              refine lexH_yieldE rfl rfl ?_
              apply Exists.intro
              refine ⟨fun W hW => ?_, ?_⟩
              focus (go_simp; exact rfl)
              simp only [List.getElem_toArray, List.getElem_cons_succ, List.getElem_cons_zero, Act.put, List.setIfInBounds_toArray, List.set_cons_zero, List.set_cons_succ]
              refine lexH_yieldE rfl rfl ?_
              apply Exists.intro
              refine ⟨fun W hW => ?_, ?_⟩
              focus (go_simp; exact rfl)
              simp only [List.getElem_toArray, List.getElem_cons_succ, List.getElem_cons_zero, Act.put, List.setIfInBounds_toArray, List.set_cons_zero, List.set_cons_succ]
              refine lexH_skip rfl rfl ?_
              simp only [List.getElem_toArray, List.getElem_cons_succ, List.getElem_cons_zero, Act.put, List.setIfInBounds_toArray, List.set_cons_zero, List.set_cons_succ]
              refine lexH_skip rfl rfl ?_
              simp only [List.getElem_toArray, List.getElem_cons_succ, List.getElem_cons_zero, Act.put, List.setIfInBounds_toArray, List.set_cons_zero, List.set_cons_succ]
              refine lexH_skip rfl rfl ?_
              simp only [List.getElem_toArray, List.getElem_cons_succ, List.getElem_cons_zero, Act.put, List.setIfInBounds_toArray, List.set_cons_zero, List.set_cons_succ]
              refine lexH_skip rfl rfl ?_
              simp only [List.getElem_toArray, List.getElem_cons_succ, List.getElem_cons_zero, Act.put, List.setIfInBounds_toArray, List.set_cons_zero, List.set_cons_succ]
              refine lexH_skip rfl rfl ?_
              simp only [List.getElem_toArray, List.getElem_cons_succ, List.getElem_cons_zero, Act.put, List.setIfInBounds_toArray, List.set_cons_zero, List.set_cons_succ]
              refine lexH_skip rfl rfl ?_
              simp only [List.getElem_toArray, List.getElem_cons_succ, List.getElem_cons_zero, Act.put, List.setIfInBounds_toArray, List.set_cons_zero, List.set_cons_succ]
              refine lexH_skip rfl rfl ?_
              simp only [List.getElem_toArray, List.getElem_cons_succ, List.getElem_cons_zero, Act.put, List.setIfInBounds_toArray, List.set_cons_zero, List.set_cons_succ]
              refine lexH_skip rfl rfl ?_
              simp only [List.getElem_toArray, List.getElem_cons_succ, List.getElem_cons_zero, Act.put, List.setIfInBounds_toArray, List.set_cons_zero, List.set_cons_succ]
              refine lexH_skip rfl rfl ?_
              simp only [List.getElem_toArray, List.getElem_cons_succ, List.getElem_cons_zero, Act.put, List.setIfInBounds_toArray, List.set_cons_zero, List.set_cons_succ]
              refine lexH_skip rfl rfl ?_
              simp only [List.getElem_toArray, List.getElem_cons_succ, List.getElem_cons_zero, Act.put, List.setIfInBounds_toArray, List.set_cons_zero, List.set_cons_succ]
              refine lexH_skip rfl rfl ?_
              simp only [List.getElem_toArray, List.getElem_cons_succ, List.getElem_cons_zero, Act.put, List.setIfInBounds_toArray, List.set_cons_zero, List.set_cons_succ]
              refine lexH_skip rfl rfl ?_
              simp only [List.getElem_toArray, List.getElem_cons_succ, List.getElem_cons_zero, Act.put, List.setIfInBounds_toArray, List.set_cons_zero, List.set_cons_succ]
              refine lexH_skip rfl rfl ?_
              simp only [List.getElem_toArray, List.getElem_cons_succ, List.getElem_cons_zero, Act.put, List.setIfInBounds_toArray, List.set_cons_zero, List.set_cons_succ]
              refine lexH_skip rfl rfl ?_
              simp only [List.getElem_toArray, List.getElem_cons_succ, List.getElem_cons_zero, Act.put, List.setIfInBounds_toArray, List.set_cons_zero, List.set_cons_succ]
              refine lexH_yieldE rfl rfl ?_
              apply Exists.intro
              refine ⟨fun W hW => ?_, ?_⟩
              focus (go_simp; exact rfl)
              simp only [List.getElem_toArray, List.getElem_cons_succ, List.getElem_cons_zero, Act.put, List.setIfInBounds_toArray, List.set_cons_zero, List.set_cons_succ]
              refine lexH_nil ?_
              have HB3 := Lib.hid (show Below w.heap.size w W0 from HB2.out.trans (hK0.below.mono HB2.out.size))
              clear hK0 HB2 L1 L2 L3 HB0
              go_wp2_with (fail)
              go_roundw
              case rel => exact ⟨k + 1, hlt, by go_num, by rw [HE.out], HB3.out⟩
              case measure => simp [intOf]; omega
            · have h2 : yj ≤ yk := by omega
              cases high with
              | false =>
                have HE := Lib.hid (show pickK L order false (k + 1) = (j : Int) by rw [HPK.out]; rw [if_neg (fun h => h.elim (fun h0 => by omega) (fun h => h.elim h1 (fun h => absurd h.1 (by decide))))])
                clear hlo2 HPK
                have L1 := Lib.hid (show ∀ W', Kept W.heap.size W W' → (loadVar 3 ⟨xb, 1, none⟩).run Try.prog W' = .ok (.int .i64 yk) W' from fun W' hW => run_loadVar_cell (fun _ => by kernel_rfl) (by rw [hW.cell (World.block_lt_of_cell? _ _ d1)]; exact d1))
                have L2 := Lib.hid (show ∀ W', Kept W.heap.size W W' → (loadVar 74 ⟨r, 1, none⟩).run Try.prog W' = .ok (.slice (some ⟨g, 0, none⟩) L.length c) W' from fun W' hW => run_loadVar_cell (fun _ => by kernel_rfl) (by rw [hW.cell (World.block_lt_of_cell? _ _ c1)]; exact c1))
                have L3 := Lib.hid (show ∀ W', Kept W.heap.size W W' → (loadVar 3 ⟨g, j * 2 + 1, none⟩).run Try.prog W' = .ok (.int .i64 yj) W' from fun W' hW => run_loadVar_cell (fun _ => by kernel_rfl) (by rw [hW.cell (World.block_lt_of_cell? _ _ e1)]; exact e1))
                clear c1 d1 e1
                refine wp_region_lex1 (Kept W.heap.size W) [(0, false), (1, false), (2, false), (3, false), (4, false), (5, false), (6, false), (7, false), (8, false), (9, false), (10, false), (11, false), (12, false), (13, false), (14, false), (15, false), (16, false), (17, false), (18, false), (19, false), (20, false), (21, false), (22, false), (23, false), (24, false), (25, false), (26, false), (27, false), (28, false), (29, false), (30, false)]
                  (by kernel_rfl) (by kernel_rfl) rfl (by kernel_rfl) (Below.refl _ W).drew ?_
                intro W0 hW0 hK0
                clear hW0
                refine lexH_yieldE rfl rfl ?_
                apply Exists.intro
                refine ⟨fun W hW => ?_, ?_⟩
                focus (go_simp; exact rfl)
                simp only [List.getElem_toArray, List.getElem_cons_zero, Act.put, List.setIfInBounds_toArray, List.set_cons_zero, List.set_cons_succ]
                refine lexH_yieldE rfl rfl ?_
                apply Exists.intro
                refine ⟨fun W hW => ?_, ?_⟩
                focus (go_simp; exact rfl)
                simp only [List.getElem_toArray, List.getElem_cons_succ, List.getElem_cons_zero, Act.put, List.setIfInBounds_toArray, List.set_cons_zero, List.set_cons_succ]
                refine lexH_yieldE rfl rfl ?_
                apply Exists.intro
                refine ⟨fun W hW => ?_, ?_⟩
                focus (go_simp; exact rfl)
                simp only [List.getElem_toArray, List.getElem_cons_succ, List.getElem_cons_zero, Act.put, List.setIfInBounds_toArray, List.set_cons_zero, List.set_cons_succ]
                refine lexH_yieldE rfl rfl ?_
                apply Exists.intro
                refine ⟨fun W hW => ?_, ?_⟩
                focus (go_simp; exact rfl)
                simp only [List.getElem_toArray, List.getElem_cons_succ, List.getElem_cons_zero, Act.put, List.setIfInBounds_toArray, List.set_cons_zero, List.set_cons_succ]
                refine lexH_load rfl rfl _ _ rfl rfl L1.out ?_
                simp only [List.getElem_toArray, List.getElem_cons_succ, List.getElem_cons_zero, Act.put, List.setIfInBounds_toArray, List.set_cons_zero, List.set_cons_succ]
                refine lexH_yieldE rfl rfl ?_
                apply Exists.intro
                refine ⟨fun W hW => ?_, ?_⟩
                focus (go_simp; exact rfl)
                simp only [List.getElem_toArray, List.getElem_cons_succ, List.getElem_cons_zero, Act.put, List.setIfInBounds_toArray, List.set_cons_zero, List.set_cons_succ]
                refine lexH_yieldE rfl rfl ?_
                apply Exists.intro
                refine ⟨fun W hW => ?_, ?_⟩
                focus (go_simp; exact rfl)
                simp only [List.getElem_toArray, List.getElem_cons_succ, List.getElem_cons_zero, Act.put, List.setIfInBounds_toArray, List.set_cons_zero, List.set_cons_succ]
                refine lexH_yieldE rfl rfl ?_
                apply Exists.intro
                refine ⟨fun W hW => ?_, ?_⟩
                focus (go_simp; exact rfl)
                simp only [List.getElem_toArray, List.getElem_cons_succ, List.getElem_cons_zero, Act.put, List.setIfInBounds_toArray, List.set_cons_zero, List.set_cons_succ]
                refine lexH_load rfl rfl _ _ rfl rfl L2.out ?_
                simp only [List.getElem_toArray, List.getElem_cons_succ, List.getElem_cons_zero, Act.put, List.setIfInBounds_toArray, List.set_cons_zero, List.set_cons_succ]
                refine lexH_yieldE rfl rfl ?_
                apply Exists.intro
                refine ⟨fun W hW => ?_, ?_⟩
                focus (go_simp; exact rfl)
                simp only [List.getElem_toArray, List.getElem_cons_succ, List.getElem_cons_zero, Act.put, List.setIfInBounds_toArray, List.set_cons_zero, List.set_cons_succ]
                refine lexH_yieldE rfl rfl ?_
                apply Exists.intro
                refine ⟨fun W hW => ?_, ?_⟩
                focus (go_simp; exact rfl)
                simp only [List.getElem_toArray, List.getElem_cons_succ, List.getElem_cons_zero, Act.put, List.setIfInBounds_toArray, List.set_cons_zero, List.set_cons_succ]
                refine lexH_yieldE rfl rfl ?_
                apply Exists.intro
                refine ⟨fun W hW => ?_, ?_⟩
                focus (go_simp; exact rfl)
                simp only [List.getElem_toArray, List.getElem_cons_succ, List.getElem_cons_zero, Act.put, List.setIfInBounds_toArray, List.set_cons_zero, List.set_cons_succ]
                refine lexH_load rfl rfl _ _ rfl rfl L3.out ?_
                simp only [List.getElem_toArray, List.getElem_cons_succ, List.getElem_cons_zero, Act.put, List.setIfInBounds_toArray, List.set_cons_zero, List.set_cons_succ]
                refine lexH_yieldE rfl rfl ?_
                apply Exists.intro
                refine ⟨fun W hW => ?_, ?_⟩
                focus (go_simp; exact rfl)
                simp only [List.getElem_toArray, List.getElem_cons_succ, List.getElem_cons_zero, Act.put, List.setIfInBounds_toArray, List.set_cons_zero, List.set_cons_succ]
                refine lexH_yieldE rfl rfl ?_
                apply Exists.intro
                refine ⟨fun W hW => ?_, ?_⟩
                focus (go_simp; exact rfl)
                simp only [List.getElem_toArray, List.getElem_cons_succ, List.getElem_cons_zero, Act.put, List.setIfInBounds_toArray, List.set_cons_zero, List.set_cons_succ]
                refine lexH_yieldE rfl rfl ?_
                apply Exists.intro
                refine ⟨fun W hW => ?_, ?_⟩
                focus (go_simp; exact rfl)
                simp only [List.getElem_toArray, List.getElem_cons_succ, List.getElem_cons_zero, Act.put, List.setIfInBounds_toArray, List.set_cons_zero, List.set_cons_succ]
                refine lexH_yieldE rfl rfl ?_
                apply Exists.intro
                refine ⟨fun W hW => ?_, ?_⟩
                focus (go_simp; exact rfl)
                simp only [List.getElem_toArray, List.getElem_cons_succ, List.getElem_cons_zero, Act.put, List.setIfInBounds_toArray, List.set_cons_zero, List.set_cons_succ]
                refine lexH_yieldE rfl rfl ?_
                apply Exists.intro
                refine ⟨fun W hW => ?_, ?_⟩
                focus (go_simp; exact rfl)
                simp only [List.getElem_toArray, List.getElem_cons_succ, List.getElem_cons_zero, Act.put, List.setIfInBounds_toArray, List.set_cons_zero, List.set_cons_succ]
                refine lexH_skip rfl rfl ?_
                simp only [List.getElem_toArray, List.getElem_cons_succ, List.getElem_cons_zero, Act.put, List.setIfInBounds_toArray, List.set_cons_zero, List.set_cons_succ]
                refine lexH_skip rfl rfl ?_
                simp only [List.getElem_toArray, List.getElem_cons_succ, List.getElem_cons_zero, Act.put, List.setIfInBounds_toArray, List.set_cons_zero, List.set_cons_succ]
                refine lexH_skip rfl rfl ?_
                simp only [List.getElem_toArray, List.getElem_cons_succ, List.getElem_cons_zero, Act.put, List.setIfInBounds_toArray, List.set_cons_zero, List.set_cons_succ]
                refine lexH_skip rfl rfl ?_
                simp only [List.getElem_toArray, List.getElem_cons_succ, List.getElem_cons_zero, Act.put, List.setIfInBounds_toArray, List.set_cons_zero, List.set_cons_succ]
                refine lexH_skip rfl rfl ?_
                simp only [List.getElem_toArray, List.getElem_cons_succ, List.getElem_cons_zero, Act.put, List.setIfInBounds_toArray, List.set_cons_zero, List.set_cons_succ]
                refine lexH_skip rfl rfl ?_
                simp only [List.getElem_toArray, List.getElem_cons_succ, List.getElem_cons_zero, Act.put, List.setIfInBounds_toArray, List.set_cons_zero, List.set_cons_succ]
                refine lexH_skip rfl rfl ?_
                simp only [List.getElem_toArray, List.getElem_cons_succ, List.getElem_cons_zero, Act.put, List.setIfInBounds_toArray, List.set_cons_zero, List.set_cons_succ]
                refine lexH_skip rfl rfl ?_
                simp only [List.getElem_toArray, List.getElem_cons_succ, List.getElem_cons_zero, Act.put, List.setIfInBounds_toArray, List.set_cons_zero, List.set_cons_succ]
                refine lexH_skip rfl rfl ?_
                simp only [List.getElem_toArray, List.getElem_cons_succ, List.getElem_cons_zero, Act.put, List.setIfInBounds_toArray, List.set_cons_zero, List.set_cons_succ]
                refine lexH_skip rfl rfl ?_
                simp only [List.getElem_toArray, List.getElem_cons_succ, List.getElem_cons_zero, Act.put, List.setIfInBounds_toArray, List.set_cons_zero, List.set_cons_succ]
                refine lexH_skip rfl rfl ?_
                simp only [List.getElem_toArray, List.getElem_cons_succ, List.getElem_cons_zero, Act.put, List.setIfInBounds_toArray, List.set_cons_zero, List.set_cons_succ]
                refine lexH_yieldE rfl rfl ?_
                apply Exists.intro
                refine ⟨fun W hW => ?_, ?_⟩
                focus (go_simp; exact rfl)
                simp only [List.getElem_toArray, List.getElem_cons_succ, List.getElem_cons_zero, Act.put, List.setIfInBounds_toArray, List.set_cons_zero, List.set_cons_succ]
                refine lexH_yieldE rfl rfl ?_
                apply Exists.intro
                refine ⟨fun W hW => ?_, ?_⟩
                focus (go_simp; exact rfl)
                simp only [List.getElem_toArray, List.getElem_cons_succ, List.getElem_cons_zero, Act.put, List.setIfInBounds_toArray, List.set_cons_zero, List.set_cons_succ]
                refine lexH_nil ?_
                have HB3 := Lib.hid (show Below w.heap.size w W0 from HB2.out.trans (hK0.below.mono HB2.out.size))
                clear hK0 HB2 L1 L2 L3 HB0
                go_wp2_with (fail)
                go_roundw
                case rel => exact ⟨k + 1, hlt, by go_num, by rw [HE.out], HB3.out⟩
                case measure => simp [intOf]; omega
              | true =>
                by_cases h3 : yk = yj
                · have HE := Lib.hid (show pickK L order true (k + 1) = (k : Int) by rw [HPK.out]; rw [if_pos (.inr (.inr ⟨rfl, h3⟩))])
                  have h4 : (yk == yj) = true := by simp [h3]
                  clear hlo2 HPK h3
                  have L1 := Lib.hid (show ∀ W', Kept W.heap.size W W' → (loadVar 3 ⟨xb, 1, none⟩).run Try.prog W' = .ok (.int .i64 yk) W' from fun W' hW => run_loadVar_cell (fun _ => by kernel_rfl) (by rw [hW.cell (World.block_lt_of_cell? _ _ d1)]; exact d1))
                  have L2 := Lib.hid (show ∀ W', Kept W.heap.size W W' → (loadVar 74 ⟨r, 1, none⟩).run Try.prog W' = .ok (.slice (some ⟨g, 0, none⟩) L.length c) W' from fun W' hW => run_loadVar_cell (fun _ => by kernel_rfl) (by rw [hW.cell (World.block_lt_of_cell? _ _ c1)]; exact c1))
                  have L3 := Lib.hid (show ∀ W', Kept W.heap.size W W' → (loadVar 3 ⟨g, j * 2 + 1, none⟩).run Try.prog W' = .ok (.int .i64 yj) W' from fun W' hW => run_loadVar_cell (fun _ => by kernel_rfl) (by rw [hW.cell (World.block_lt_of_cell? _ _ e1)]; exact e1))
                  clear c1 d1 e1
                  refine wp_region_lex1 (Kept W.heap.size W) [(0, false), (1, false), (2, false), (3, false), (4, false), (5, false), (6, false), (7, false), (8, false), (9, false), (10, false), (11, false), (12, false), (13, false), (14, false), (15, false), (16, false), (17, false), (18, false), (19, false), (20, false), (21, false), (22, false), (23, false), (24, false), (25, false), (26, false), (27, false), (28, false), (29, false), (30, false)]
                    (by kernel_rfl) (by kernel_rfl) rfl (by kernel_rfl) (Below.refl _ W).drew ?_
                  intro W0 hW0 hK0
                  clear hW0
                  refine lexH_yieldE rfl rfl ?_
                  apply Exists.intro
                  refine ⟨fun W hW => ?_, ?_⟩
                  focus (go_simp; exact rfl)
                  simp only [List.getElem_toArray, List.getElem_cons_zero, Act.put, List.setIfInBounds_toArray, List.set_cons_zero, List.set_cons_succ]
                  refine lexH_yieldE rfl rfl ?_
                  apply Exists.intro
                  refine ⟨fun W hW => ?_, ?_⟩
                  focus (go_simp; exact rfl)
                  simp only [List.getElem_toArray, List.getElem_cons_succ, List.getElem_cons_zero, Act.put, List.setIfInBounds_toArray, List.set_cons_zero, List.set_cons_succ]
                  refine lexH_yieldE rfl rfl ?_
                  apply Exists.intro
                  refine ⟨fun W hW => ?_, ?_⟩
                  focus (go_simp; exact rfl)
                  simp only [List.getElem_toArray, List.getElem_cons_succ, List.getElem_cons_zero, Act.put, List.setIfInBounds_toArray, List.set_cons_zero, List.set_cons_succ]
                  refine lexH_yieldE rfl rfl ?_
                  apply Exists.intro
                  refine ⟨fun W hW => ?_, ?_⟩
                  focus (go_simp; exact rfl)
                  simp only [List.getElem_toArray, List.getElem_cons_succ, List.getElem_cons_zero, Act.put, List.setIfInBounds_toArray, List.set_cons_zero, List.set_cons_succ]
                  refine lexH_load rfl rfl _ _ rfl rfl L1.out ?_
                  simp only [List.getElem_toArray, List.getElem_cons_succ, List.getElem_cons_zero, Act.put, List.setIfInBounds_toArray, List.set_cons_zero, List.set_cons_succ]
                  refine lexH_yieldE rfl rfl ?_
                  apply Exists.intro
                  refine ⟨fun W hW => ?_, ?_⟩
                  focus (go_simp; exact rfl)
                  simp only [List.getElem_toArray, List.getElem_cons_succ, List.getElem_cons_zero, Act.put, List.setIfInBounds_toArray, List.set_cons_zero, List.set_cons_succ]
                  refine lexH_yieldE rfl rfl ?_
                  apply Exists.intro
                  refine ⟨fun W hW => ?_, ?_⟩
                  focus (go_simp; exact rfl)
                  simp only [List.getElem_toArray, List.getElem_cons_succ, List.getElem_cons_zero, Act.put, List.setIfInBounds_toArray, List.set_cons_zero, List.set_cons_succ]
                  refine lexH_yieldE rfl rfl ?_
                  apply Exists.intro
                  refine ⟨fun W hW => ?_, ?_⟩
                  focus (go_simp; exact rfl)
                  simp only [List.getElem_toArray, List.getElem_cons_succ, List.getElem_cons_zero, Act.put, List.setIfInBounds_toArray, List.set_cons_zero, List.set_cons_succ]
                  refine lexH_load rfl rfl _ _ rfl rfl L2.out ?_
                  simp only [List.getElem_toArray, List.getElem_cons_succ, List.getElem_cons_zero, Act.put, List.setIfInBounds_toArray, List.set_cons_zero, List.set_cons_succ]
                  refine lexH_yieldE rfl rfl ?_
                  apply Exists.intro
                  refine ⟨fun W hW => ?_, ?_⟩
                  focus (go_simp; exact rfl)
                  simp only [List.getElem_toArray, List.getElem_cons_succ, List.getElem_cons_zero, Act.put, List.setIfInBounds_toArray, List.set_cons_zero, List.set_cons_succ]
                  refine lexH_yieldE rfl rfl ?_
                  apply Exists.intro
                  refine ⟨fun W hW => ?_, ?_⟩
                  focus (go_simp; exact rfl)
                  simp only [List.getElem_toArray, List.getElem_cons_succ, List.getElem_cons_zero, Act.put, List.setIfInBounds_toArray, List.set_cons_zero, List.set_cons_succ]
                  refine lexH_yieldE rfl rfl ?_
                  apply Exists.intro
                  refine ⟨fun W hW => ?_, ?_⟩
                  focus (go_simp; exact rfl)
                  simp only [List.getElem_toArray, List.getElem_cons_succ, List.getElem_cons_zero, Act.put, List.setIfInBounds_toArray, List.set_cons_zero, List.set_cons_succ]
                  refine lexH_load rfl rfl _ _ rfl rfl L3.out ?_
                  simp only [List.getElem_toArray, List.getElem_cons_succ, List.getElem_cons_zero, Act.put, List.setIfInBounds_toArray, List.set_cons_zero, List.set_cons_succ]
                  refine lexH_yieldE rfl rfl ?_
                  apply Exists.intro
                  refine ⟨fun W hW => ?_, ?_⟩
                  focus (go_simp; exact rfl)
                  simp only [List.getElem_toArray, List.getElem_cons_succ, List.getElem_cons_zero, Act.put, List.setIfInBounds_toArray, List.set_cons_zero, List.set_cons_succ]
                  refine lexH_yieldE rfl rfl ?_
                  apply Exists.intro
                  refine ⟨fun W hW => ?_, ?_⟩
                  focus (go_simp; exact rfl)
                  simp only [List.getElem_toArray, List.getElem_cons_succ, List.getElem_cons_zero, Act.put, List.setIfInBounds_toArray, List.set_cons_zero, List.set_cons_succ]
                  refine lexH_yieldE rfl rfl ?_
                  apply Exists.intro
                  refine ⟨fun W hW => ?_, ?_⟩
                  focus (go_simp; exact rfl)
                  simp only [List.getElem_toArray, List.getElem_cons_succ, List.getElem_cons_zero, Act.put, List.setIfInBounds_toArray, List.set_cons_zero, List.set_cons_succ]
                  refine lexH_yieldE rfl rfl ?_
                  apply Exists.intro
                  refine ⟨fun W hW => ?_, ?_⟩
                  focus (go_simp; exact rfl)
                  simp only [List.getElem_toArray, List.getElem_cons_succ, List.getElem_cons_zero, Act.put, List.setIfInBounds_toArray, List.set_cons_zero, List.set_cons_succ]
                  refine lexH_yieldE rfl rfl ?_
                  apply Exists.intro
                  refine ⟨fun W hW => ?_, ?_⟩
                  focus (go_simp; exact rfl)
                  simp only [List.getElem_toArray, List.getElem_cons_succ, List.getElem_cons_zero, Act.put, List.setIfInBounds_toArray, List.set_cons_zero, List.set_cons_succ]
                  refine lexH_yieldE rfl rfl ?_
                  apply Exists.intro
                  refine ⟨fun W hW => ?_, ?_⟩
                  focus (go_simp; exact rfl)
                  simp only [List.getElem_toArray, List.getElem_cons_succ, List.getElem_cons_zero, Act.put, List.setIfInBounds_toArray, List.set_cons_zero, List.set_cons_succ]
                  refine lexH_load rfl rfl _ _ rfl rfl L1.out ?_
                  simp only [List.getElem_toArray, List.getElem_cons_succ, List.getElem_cons_zero, Act.put, List.setIfInBounds_toArray, List.set_cons_zero, List.set_cons_succ]
                  refine lexH_yieldE rfl rfl ?_
                  apply Exists.intro
                  refine ⟨fun W hW => ?_, ?_⟩
                  focus (go_simp; exact rfl)
                  simp only [List.getElem_toArray, List.getElem_cons_succ, List.getElem_cons_zero, Act.put, List.setIfInBounds_toArray, List.set_cons_zero, List.set_cons_succ]
                  refine lexH_yieldE rfl rfl ?_
                  apply Exists.intro
                  refine ⟨fun W hW => ?_, ?_⟩
                  focus (go_simp; exact rfl)
                  simp only [List.getElem_toArray, List.getElem_cons_succ, List.getElem_cons_zero, Act.put, List.setIfInBounds_toArray, List.set_cons_zero, List.set_cons_succ]
                  refine lexH_yieldE rfl rfl ?_
                  apply Exists.intro
                  refine ⟨fun W hW => ?_, ?_⟩
                  focus (go_simp; exact rfl)
                  simp only [List.getElem_toArray, List.getElem_cons_succ, List.getElem_cons_zero, Act.put, List.setIfInBounds_toArray, List.set_cons_zero, List.set_cons_succ]
                  refine lexH_load rfl rfl _ _ rfl rfl L2.out ?_
                  simp only [List.getElem_toArray, List.getElem_cons_succ, List.getElem_cons_zero, Act.put, List.setIfInBounds_toArray, List.set_cons_zero, List.set_cons_succ]
                  refine lexH_yieldE rfl rfl ?_
                  apply Exists.intro
                  refine ⟨fun W hW => ?_, ?_⟩
                  focus (go_simp; exact rfl)
                  simp only [List.getElem_toArray, List.getElem_cons_succ, List.getElem_cons_zero, Act.put, List.setIfInBounds_toArray, List.set_cons_zero, List.set_cons_succ]
                  refine lexH_yieldE rfl rfl ?_
                  apply Exists.intro
                  refine ⟨fun W hW => ?_, ?_⟩
                  focus (go_simp; exact rfl)
                  simp only [List.getElem_toArray, List.getElem_cons_succ, List.getElem_cons_zero, Act.put, List.setIfInBounds_toArray, List.set_cons_zero, List.set_cons_succ]
                  refine lexH_yieldE rfl rfl ?_
                  apply Exists.intro
                  refine ⟨fun W hW => ?_, ?_⟩
                  focus (go_simp; exact rfl)
                  simp only [List.getElem_toArray, List.getElem_cons_succ, List.getElem_cons_zero, Act.put, List.setIfInBounds_toArray, List.set_cons_zero, List.set_cons_succ]
                  refine lexH_load rfl rfl _ _ rfl rfl L3.out ?_
                  simp only [List.getElem_toArray, List.getElem_cons_succ, List.getElem_cons_zero, Act.put, List.setIfInBounds_toArray, List.set_cons_zero, List.set_cons_succ]
                  refine lexH_yieldE rfl rfl ?_
                  apply Exists.intro
                  refine ⟨fun W hW => ?_, ?_⟩
                  focus (go_simp; exact rfl)
                  simp only [List.getElem_toArray, List.getElem_cons_succ, List.getElem_cons_zero, Act.put, List.setIfInBounds_toArray, List.set_cons_zero, List.set_cons_succ]
                  refine lexH_yieldE rfl rfl ?_
                  apply Exists.intro
                  refine ⟨fun W hW => ?_, ?_⟩
                  focus (go_simp; exact rfl)
                  simp only [List.getElem_toArray, List.getElem_cons_succ, List.getElem_cons_zero, Act.put, List.setIfInBounds_toArray, List.set_cons_zero, List.set_cons_succ]
                  refine lexH_yieldE rfl rfl ?_
                  apply Exists.intro
                  refine ⟨fun W hW => ?_, ?_⟩
                  focus (go_simp; exact rfl)
                  simp only [List.getElem_toArray, List.getElem_cons_succ, List.getElem_cons_zero, Act.put, List.setIfInBounds_toArray, List.set_cons_zero, List.set_cons_succ]
                  refine lexH_nil ?_
                  have HB3 := Lib.hid (show Below w.heap.size w W0 from HB2.out.trans (hK0.below.mono HB2.out.size))
                  clear hK0 HB2 L1 L2 L3 HB0
                  go_wp2_with (fail)
                  go_roundw
                  case rel => exact ⟨k + 1, hlt, by go_num, by rw [HE.out], HB3.out⟩
                  case measure => simp [intOf]; omega
                · have h4 : (yk == yj) = false := by simpa using h3
                  have HE := Lib.hid (show pickK L order true (k + 1) = (j : Int) by rw [HPK.out]; rw [if_neg (fun h => h.elim (fun h0 => by omega) (fun h => h.elim h1 (fun h => h3 h.2)))])
                  clear hlo2 HPK h3
                  have L1 := Lib.hid (show ∀ W', Kept W.heap.size W W' → (loadVar 3 ⟨xb, 1, none⟩).run Try.prog W' = .ok (.int .i64 yk) W' from fun W' hW => run_loadVar_cell (fun _ => by kernel_rfl) (by rw [hW.cell (World.block_lt_of_cell? _ _ d1)]; exact d1))
                  have L2 := Lib.hid (show ∀ W', Kept W.heap.size W W' → (loadVar 74 ⟨r, 1, none⟩).run Try.prog W' = .ok (.slice (some ⟨g, 0, none⟩) L.length c) W' from fun W' hW => run_loadVar_cell (fun _ => by kernel_rfl) (by rw [hW.cell (World.block_lt_of_cell? _ _ c1)]; exact c1))
                  have L3 := Lib.hid (show ∀ W', Kept W.heap.size W W' → (loadVar 3 ⟨g, j * 2 + 1, none⟩).run Try.prog W' = .ok (.int .i64 yj) W' from fun W' hW => run_loadVar_cell (fun _ => by kernel_rfl) (by rw [hW.cell (World.block_lt_of_cell? _ _ e1)]; exact e1))
                  clear c1 d1 e1
                  refine wp_region_lex1 (Kept W.heap.size W) [(0, false), (1, false), (2, false), (3, false), (4, false), (5, false), (6, false), (7, false), (8, false), (9, false), (10, false), (11, false), (12, false), (13, false), (14, false), (15, false), (16, false), (17, false), (18, false), (19, false), (20, false), (21, false), (22, false), (23, false), (24, false), (25, false), (26, false), (27, false), (28, false), (29, false), (30, false)]
                    (by kernel_rfl) (by kernel_rfl) rfl (by kernel_rfl) (Below.refl _ W).drew ?_
                  intro W0 hW0 hK0
                  clear hW0
                  refine lexH_yieldE rfl rfl ?_
                  apply Exists.intro
                  refine ⟨fun W hW => ?_, ?_⟩
                  focus (go_simp; exact rfl)
                  simp only [List.getElem_toArray, List.getElem_cons_zero, Act.put, List.setIfInBounds_toArray, List.set_cons_zero, List.set_cons_succ]
                  refine lexH_yieldE rfl rfl ?_
                  apply Exists.intro
                  refine ⟨fun W hW => ?_, ?_⟩
                  focus (go_simp; exact rfl)
                  simp only [List.getElem_toArray, List.getElem_cons_succ, List.getElem_cons_zero, Act.put, List.setIfInBounds_toArray, List.set_cons_zero, List.set_cons_succ]
                  refine lexH_yieldE rfl rfl ?_
                  apply Exists.intro
                  refine ⟨fun W hW => ?_, ?_⟩
                  focus (go_simp; exact rfl)
                  simp only [List.getElem_toArray, List.getElem_cons_succ, List.getElem_cons_zero, Act.put, List.setIfInBounds_toArray, List.set_cons_zero, List.set_cons_succ]
                  refine lexH_yieldE rfl rfl ?_
                  apply Exists.intro
                  refine ⟨fun W hW => ?_, ?_⟩
                  focus (go_simp; exact rfl)
                  simp only [List.getElem_toArray, List.getElem_cons_succ, List.getElem_cons_zero, Act.put, List.setIfInBounds_toArray, List.set_cons_zero, List.set_cons_succ]
                  refine lexH_load rfl rfl _ _ rfl rfl L1.out ?_
                  simp only [List.getElem_toArray, List.getElem_cons_succ, List.getElem_cons_zero, Act.put, List.setIfInBounds_toArray, List.set_cons_zero, List.set_cons_succ]
                  refine lexH_yieldE rfl rfl ?_
                  apply Exists.intro
                  refine ⟨fun W hW => ?_, ?_⟩
                  focus (go_simp; exact rfl)
                  simp only [List.getElem_toArray, List.getElem_cons_succ, List.getElem_cons_zero, Act.put, List.setIfInBounds_toArray, List.set_cons_zero, List.set_cons_succ]
                  refine lexH_yieldE rfl rfl ?_
                  apply Exists.intro
                  refine ⟨fun W hW => ?_, ?_⟩
                  focus (go_simp; exact rfl)
                  simp only [List.getElem_toArray, List.getElem_cons_succ, List.getElem_cons_zero, Act.put, List.setIfInBounds_toArray, List.set_cons_zero, List.set_cons_succ]
                  refine lexH_yieldE rfl rfl ?_
                  apply Exists.intro
                  refine ⟨fun W hW => ?_, ?_⟩
                  focus (go_simp; exact rfl)
                  simp only [List.getElem_toArray, List.getElem_cons_succ, List.getElem_cons_zero, Act.put, List.setIfInBounds_toArray, List.set_cons_zero, List.set_cons_succ]
                  refine lexH_load rfl rfl _ _ rfl rfl L2.out ?_
                  simp only [List.getElem_toArray, List.getElem_cons_succ, List.getElem_cons_zero, Act.put, List.setIfInBounds_toArray, List.set_cons_zero, List.set_cons_succ]
                  refine lexH_yieldE rfl rfl ?_
                  apply Exists.intro
                  refine ⟨fun W hW => ?_, ?_⟩
                  focus (go_simp; exact rfl)
                  simp only [List.getElem_toArray, List.getElem_cons_succ, List.getElem_cons_zero, Act.put, List.setIfInBounds_toArray, List.set_cons_zero, List.set_cons_succ]
                  refine lexH_yieldE rfl rfl ?_
                  apply Exists.intro
                  refine ⟨fun W hW => ?_, ?_⟩
                  focus (go_simp; exact rfl)
                  simp only [List.getElem_toArray, List.getElem_cons_succ, List.getElem_cons_zero, Act.put, List.setIfInBounds_toArray, List.set_cons_zero, List.set_cons_succ]
                  refine lexH_yieldE rfl rfl ?_
                  apply Exists.intro
                  refine ⟨fun W hW => ?_, ?_⟩
                  focus (go_simp; exact rfl)
                  simp only [List.getElem_toArray, List.getElem_cons_succ, List.getElem_cons_zero, Act.put, List.setIfInBounds_toArray, List.set_cons_zero, List.set_cons_succ]
                  refine lexH_load rfl rfl _ _ rfl rfl L3.out ?_
                  simp only [List.getElem_toArray, List.getElem_cons_succ, List.getElem_cons_zero, Act.put, List.setIfInBounds_toArray, List.set_cons_zero, List.set_cons_succ]
                  refine lexH_yieldE rfl rfl ?_
                  apply Exists.intro
                  refine ⟨fun W hW => ?_, ?_⟩
                  focus (go_simp; exact rfl)
                  simp only [List.getElem_toArray, List.getElem_cons_succ, List.getElem_cons_zero, Act.put, List.setIfInBounds_toArray, List.set_cons_zero, List.set_cons_succ]
                  refine lexH_yieldE rfl rfl ?_
                  apply Exists.intro
                  refine ⟨fun W hW => ?_, ?_⟩
                  focus (go_simp; exact rfl)
                  simp only [List.getElem_toArray, List.getElem_cons_succ, List.getElem_cons_zero, Act.put, List.setIfInBounds_toArray, List.set_cons_zero, List.set_cons_succ]
                  refine lexH_yieldE rfl rfl ?_
                  apply Exists.intro
                  refine ⟨fun W hW => ?_, ?_⟩
                  focus (go_simp; exact rfl)
                  simp only [List.getElem_toArray, List.getElem_cons_succ, List.getElem_cons_zero, Act.put, List.setIfInBounds_toArray, List.set_cons_zero, List.set_cons_succ]
                  refine lexH_yieldE rfl rfl ?_
                  apply Exists.intro
                  refine ⟨fun W hW => ?_, ?_⟩
                  focus (go_simp; exact rfl)
                  simp only [List.getElem_toArray, List.getElem_cons_succ, List.getElem_cons_zero, Act.put, List.setIfInBounds_toArray, List.set_cons_zero, List.set_cons_succ]
                  refine lexH_yieldE rfl rfl ?_
                  apply Exists.intro
                  refine ⟨fun W hW => ?_, ?_⟩
                  focus (go_simp; exact rfl)
                  simp only [List.getElem_toArray, List.getElem_cons_succ, List.getElem_cons_zero, Act.put, List.setIfInBounds_toArray, List.set_cons_zero, List.set_cons_succ]
                  refine lexH_yieldE rfl rfl ?_
                  apply Exists.intro
                  refine ⟨fun W hW => ?_, ?_⟩
                  focus (go_simp; exact rfl)
                  simp only [List.getElem_toArray, List.getElem_cons_succ, List.getElem_cons_zero, Act.put, List.setIfInBounds_toArray, List.set_cons_zero, List.set_cons_succ]
                  refine lexH_load rfl rfl _ _ rfl rfl L1.out ?_
                  simp only [List.getElem_toArray, List.getElem_cons_succ, List.getElem_cons_zero, Act.put, List.setIfInBounds_toArray, List.set_cons_zero, List.set_cons_succ]
                  refine lexH_yieldE rfl rfl ?_
                  apply Exists.intro
                  refine ⟨fun W hW => ?_, ?_⟩
                  focus (go_simp; exact rfl)
                  simp only [List.getElem_toArray, List.getElem_cons_succ, List.getElem_cons_zero, Act.put, List.setIfInBounds_toArray, List.set_cons_zero, List.set_cons_succ]
                  refine lexH_yieldE rfl rfl ?_
                  apply Exists.intro
                  refine ⟨fun W hW => ?_, ?_⟩
                  focus (go_simp; exact rfl)
                  simp only [List.getElem_toArray, List.getElem_cons_succ, List.getElem_cons_zero, Act.put, List.setIfInBounds_toArray, List.set_cons_zero, List.set_cons_succ]
                  refine lexH_yieldE rfl rfl ?_
                  apply Exists.intro
                  refine ⟨fun W hW => ?_, ?_⟩
                  focus (go_simp; exact rfl)
                  simp only [List.getElem_toArray, List.getElem_cons_succ, List.getElem_cons_zero, Act.put, List.setIfInBounds_toArray, List.set_cons_zero, List.set_cons_succ]
                  refine lexH_load rfl rfl _ _ rfl rfl L2.out ?_
                  simp only [List.getElem_toArray, List.getElem_cons_succ, List.getElem_cons_zero, Act.put, List.setIfInBounds_toArray, List.set_cons_zero, List.set_cons_succ]
                  refine lexH_yieldE rfl rfl ?_
                  apply Exists.intro
                  refine ⟨fun W hW => ?_, ?_⟩
                  focus (go_simp; exact rfl)
                  simp only [List.getElem_toArray, List.getElem_cons_succ, List.getElem_cons_zero, Act.put, List.setIfInBounds_toArray, List.set_cons_zero, List.set_cons_succ]
                  refine lexH_yieldE rfl rfl ?_
                  apply Exists.intro
                  refine ⟨fun W hW => ?_, ?_⟩
                  focus (go_simp; exact rfl)
                  simp only [List.getElem_toArray, List.getElem_cons_succ, List.getElem_cons_zero, Act.put, List.setIfInBounds_toArray, List.set_cons_zero, List.set_cons_succ]
                  refine lexH_yieldE rfl rfl ?_
                  apply Exists.intro
                  refine ⟨fun W hW => ?_, ?_⟩
                  focus (go_simp; exact rfl)
                  simp only [List.getElem_toArray, List.getElem_cons_succ, List.getElem_cons_zero, Act.put, List.setIfInBounds_toArray, List.set_cons_zero, List.set_cons_succ]
                  refine lexH_load rfl rfl _ _ rfl rfl L3.out ?_
                  simp only [List.getElem_toArray, List.getElem_cons_succ, List.getElem_cons_zero, Act.put, List.setIfInBounds_toArray, List.set_cons_zero, List.set_cons_succ]
                  refine lexH_yieldE rfl rfl ?_
                  apply Exists.intro
                  refine ⟨fun W hW => ?_, ?_⟩
                  focus (go_simp; exact rfl)
                  simp only [List.getElem_toArray, List.getElem_cons_succ, List.getElem_cons_zero, Act.put, List.setIfInBounds_toArray, List.set_cons_zero, List.set_cons_succ]
                  refine lexH_yieldE rfl rfl ?_
                  apply Exists.intro
                  refine ⟨fun W hW => ?_, ?_⟩
                  focus (go_simp; exact rfl)
                  simp only [List.getElem_toArray, List.getElem_cons_succ, List.getElem_cons_zero, Act.put, List.setIfInBounds_toArray, List.set_cons_zero, List.set_cons_succ]
                  refine lexH_yieldE rfl rfl ?_
                  apply Exists.intro
                  refine ⟨fun W hW => ?_, ?_⟩
                  focus (go_simp; exact rfl)
                  simp only [List.getElem_toArray, List.getElem_cons_succ, List.getElem_cons_zero, Act.put, List.setIfInBounds_toArray, List.set_cons_zero, List.set_cons_succ]
                  refine lexH_nil ?_
                  have HB3 := Lib.hid (show Below w.heap.size w W0 from HB2.out.trans (hK0.below.mono HB2.out.size))
                  clear hK0 HB2 L1 L2 L3 HB0
                  go_wp2_with (fail)
                  go_roundw
                  case rel => exact ⟨k + 1, hlt, by go_num, by rw [HE.out], HB3.out⟩
                  case measure => simp [intOf]; omega
      -- SCAN]
      · obtain rfl : k = L.length := by omega
        have HTS := Lib.hid (show takeS L T order high = _ from if_pos ⟨o1, o2⟩)
        have hpk := pick_in L order high L.length
        generalize hq : pickK L order high L.length = q at *
        clear hq
        rcases hpk with rfl | ⟨j, rfl, hj, hjo⟩
        · have HN := Lib.hid (BTake.same HR.out HB.out (by rw [HTS.out]; rfl))
          go_wp2_with (fail)
          go_ret2
          exact HN.out
        · rw [Int.toNat_natCast, getD_at hj, if_neg (by omega)] at HTS
          rw [getD_at hj] at hjo
          obtain ⟨g, rfl, _, hg2, hr⟩ := (HS.out.later HB.out).get encB_len j hj
          have e0 : wr.cell? ⟨g, j * 2, none⟩ = some (.int .i64 L[j].1) := hr 0 _ rfl
          have e1 : wr.cell? ⟨g, j * 2 + 1, none⟩ = some (.int .i64 L[j].2) := hr 1 _ rfl
          have hgd := hg L[j] (List.getElem_mem hj)
          clear hr
          generalize L[j] = x at *
          obtain ⟨x1, x2⟩ := x
          dsimp only at hjo e0 e1 hgd HTS
          obtain ⟨g1, g2, g3, g4⟩ := hgd
          obtain ⟨y, rfl⟩ := Int.eq_ofNat_of_zero_le g3
          obtain ⟨od, rfl⟩ := Int.eq_ofNat_of_zero_le o1
          rw [Int.toNat_natCast] at g2
          simp only [Int.toNat_natCast] at HTS
          have hoy : od ≤ y := by omega
          have hy10 : y ≤ 10 := by omega
          have HST := Lib.hid (store_block wr #[.int .i64 0, .int .i64 0] rfl x1 y)
          have HX := Lib.hid (block_row wr x1 y)
          have hb2 : Below wr.heap.size wr (wr.alloc (.cells #[.int .i64 x1, .int .i64 y] 77)) := (Below.refl _ _).alloc (Nat.le_refl _) _
          have HB2 := Lib.hid (HB.out.trans (hb2.mono HB.out.size))
          have HXB := Lib.hid HB.out.size
          clear hb2 g3 g4
          go_wp2_with (refine wpList_store_run rfl 77 _ _ rfl wr.heap.size _ _ rfl rfl HST.out ?_)
          clear e0 e1 c1 HST HB
          generalize wr.heap.size = xb at *
          generalize wr.alloc (.cells #[.int .i64 x1, .int .i64 y] 77) = W at *
          have HRW := Lib.hid (HR.out.later HB2.out)
          have HSW := Lib.hid (HS.out.later HB2.out)
          have L1 := Lib.hid (show ∀ W', Kept W.heap.size W W' → (loadVar 74 ⟨r, 1, none⟩).run Try.prog W' = .ok (.slice (some ⟨g, 0, none⟩) L.length c) W' from
            fun W' hW => run_loadVar_cell (fun _ => by kernel_rfl) (by rw [(HRW.out.later hW.below).c1, HV.out]))
          have L2 := Lib.hid (show ∀ W', Kept W.heap.size W W' → (loadVar 77 ⟨xb, 0, none⟩).run Try.prog W' = .ok (.agg #[.int .i64 x1, .int .i64 y]) W' from
            fun W' hW => load_block ((HX.out.later hW.below).cell 0 (by decide)) ((HX.out.later hW.below).cell 1 (by decide)))
          refine wp_region_lexF (Kept W.heap.size W) [(0, false), (1, false), (2, false), (3, false), (4, false), (5, false), (6, true), (7, false), (8, false), (9, false), (10, false), (11, false)] 12
            (by kernel_rfl) (by kernel_rfl) rfl (by kernel_rfl) (Below.refl _ W).drew ?_
          intro W0 hW0 hK0
          clear hW0
          refine lexH_yieldE rfl rfl ?_
          apply Exists.intro
          refine ⟨fun W hW => ?_, ?_⟩
          focus (go_simp; exact rfl)
          simp only [List.getElem_toArray, List.getElem_cons_zero, Act.put, List.setIfInBounds_toArray, List.set_cons_zero, List.set_cons_succ]
          refine lexH_yieldE rfl rfl ?_
          apply Exists.intro
          refine ⟨fun W hW => ?_, ?_⟩
          focus (go_simp; exact rfl)
          simp only [List.getElem_toArray, List.getElem_cons_succ, List.getElem_cons_zero, Act.put, List.setIfInBounds_toArray, List.set_cons_zero, List.set_cons_succ]
          refine lexH_yieldE rfl rfl ?_
          apply Exists.intro
          refine ⟨fun W hW => ?_, ?_⟩
          focus (go_simp; exact rfl)
          simp only [List.getElem_toArray, List.getElem_cons_succ, List.getElem_cons_zero, Act.put, List.setIfInBounds_toArray, List.set_cons_zero, List.set_cons_succ]
          refine lexH_yieldE rfl rfl ?_
          apply Exists.intro
          refine ⟨fun W hW => ?_, ?_⟩
          focus (go_simp; exact rfl)
          simp only [List.getElem_toArray, List.getElem_cons_succ, List.getElem_cons_zero, Act.put, List.setIfInBounds_toArray, List.set_cons_zero, List.set_cons_succ]
          refine lexH_load rfl rfl _ _ rfl rfl L1.out ?_
          simp only [List.getElem_toArray, List.getElem_cons_succ, List.getElem_cons_zero, Act.put, List.setIfInBounds_toArray, List.set_cons_zero, List.set_cons_succ]
          refine lexH_load rfl rfl _ _ rfl rfl L2.out ?_
          simp only [List.getElem_toArray, List.getElem_cons_succ, List.getElem_cons_zero, Act.put, List.setIfInBounds_toArray, List.set_cons_zero, List.set_cons_succ]
          refine lexH_call 58 #[.slice (some ⟨g, 0, none⟩) L.length c, .agg #[.int .i64 x1, .int .i64 y]] rfl rfl ?_ ?_
          focus (go_simp; done)
          refine (drop_any (HSW.out.later hK0.below) (by omega) c (x1, (y : Int))).mono ?_
          rintro e W3 ⟨a3, c3, rfl, hs3, hb3⟩
          have HK3 := Lib.hid (show Kept W.heap.size W W3 from hK0.below.trans (hb3.mono hK0.below.size))
          have HS3 := Lib.hid (hs3.base hK0.below.size)
          refine ⟨_, rfl, HK3.out, ?_⟩
          clear hs3 hb3 hK0
          simp only [List.getElem_toArray, List.getElem_cons_succ, List.getElem_cons_zero, Act.put, List.setIfInBounds_toArray, List.set_cons_zero, List.set_cons_succ]
          refine lexH_yieldE rfl rfl ?_
          apply Exists.intro
          refine ⟨fun W hW => ?_, ?_⟩
          focus (go_simp; exact rfl)
          simp only [List.getElem_toArray, List.getElem_cons_succ, List.getElem_cons_zero, Act.put, List.setIfInBounds_toArray, List.set_cons_zero, List.set_cons_succ]
          refine lexH_yieldE rfl rfl ?_
          apply Exists.intro
          refine ⟨fun W hW => ?_, ?_⟩
          focus (go_simp; exact rfl)
          simp only [List.getElem_toArray, List.getElem_cons_succ, List.getElem_cons_zero, Act.put, List.setIfInBounds_toArray, List.set_cons_zero, List.set_cons_succ]
          refine lexH_yieldE rfl rfl ?_
          apply Exists.intro
          refine ⟨fun W hW => ?_, ?_⟩
          focus (go_simp; exact rfl)
          simp only [List.getElem_toArray, List.getElem_cons_succ, List.getElem_cons_zero, Act.put, List.setIfInBounds_toArray, List.set_cons_zero, List.set_cons_succ]
          refine lexH_yieldE rfl rfl ?_
          apply Exists.intro
          refine ⟨fun W hW => ?_, ?_⟩
          focus (go_simp; exact rfl)
          simp only [List.getElem_toArray, List.getElem_cons_succ, List.getElem_cons_zero, Act.put, List.setIfInBounds_toArray, List.set_cons_zero, List.set_cons_succ]
          refine lexH_yieldE rfl rfl ?_
          apply Exists.intro
          refine ⟨fun W hW => ?_, ?_⟩
          focus (go_simp; exact rfl)
          simp only [List.getElem_toArray, List.getElem_cons_succ, List.getElem_cons_zero, Act.put, List.setIfInBounds_toArray, List.set_cons_zero, List.set_cons_succ]
          have hc3 := (HRW.out.later HK3.out.below).c1
          have hf3 : W3.frozen? ⟨r, 1, none⟩ = false := (HRW.out.later HK3.out.below).row.frozen 1
          have hrr : r < w.heap.size := HR.out.lt
          have hst := Only.setCell (S := Eq r) W3 ⟨r, 1, none⟩ rfl (.slice a3 (dropL L (x1, (y : Int))).length c3)
          have hbw : Below w.heap.size w W3 := HB2.out.trans (HK3.out.below.mono HB2.out.size)
          have HTK := Lib.hid (show TkAt w r n xb (dropL L (x1, (y : Int))) T u x1 y (W3.setCell ⟨r, 1, none⟩ (.slice a3 (dropL L (x1, (y : Int))).length c3)) from
            ⟨⟨a3, c3, ((HRW.out.later HK3.out.below).row.setCell 1 (.slice a3 (dropL L (x1, (y : Int))).length c3)).ext (fun i hi => by
                unfold updV brV
                rcases (show i = 0 ∨ i = 1 ∨ i = 2 by omega) with rfl | rfl | rfl <;> simp),
              (HS3.out.above hst (fun q hq e => by have := HX.out.lt; omega)).base HX.out.lt⟩,
             (HX.out.later HK3.out.below).only hst (by have := HXB.out; omega), HR.out.tk,
             (Only.of_below hbw).trans (hst.mono (fun k hk => .inl hk.symm)), HXB.out, hrr⟩)
          clear hst hbw
          refine lexH_last rfl rfl ?_
          unfold Oper.wp
          go_simp
          have hlen := dropL_len L (x1, (y : Int))
          have HLQ := Lib.hid (show (dropL L (x1, (y : Int))).length + (y - od) ≤ 900 by omega)
          have HBN := Lib.hid g2
          clear hc3 hf3 HK3 HS3 HSW HRW L1 L2 HX HB2 HXB hlen
          generalize W3.setCell ⟨r, 1, none⟩ (.slice a3 (dropL L (x1, (y : Int))).length c3) = W4 at *
          have HTG := Lib.hid (show splitL high od (y - od) (dropL L (x1, (y : Int))) x1 = splitL high od (y - od) (dropL L (x1, (y : Int))) x1 from rfl)
          generalize hL1 : dropL L (x1, (y : Int)) = L1 at HTK HLQ
          rw [hL1] at HTG HTS
          generalize htg : splitL high od (y - od) L1 x1 = tgt at HTS
          clear HTG hL1
          obtain ⟨d, hd⟩ : ∃ d, y = od + d := ⟨y - od, by omega⟩
          rw [hd, Nat.add_sub_cancel_left] at htg
          rw [show y - od = d by omega] at HLQ
          have HD := Lib.hid hd
          clear hd
          generalize L.contains (x1, (y : Int)) = cb
          go_wp2_with (fail)
          go_loopw [12] (fun h wr => ∃ (hv : Value) (d : Nat) (Lc : List (Int × Int)) (x : Int), h = hv ∧ TkAt w r n xb Lc T u x ((od + d : Nat) : Int) wr ∧ splitL high od d Lc x = tgt ∧ Lc.length + d ≤ 900 ∧ 0 ≤ x ∧ x + ((2 ^ (od + d) : Nat) : Int) ≤ 4000 ∧ od + d ≤ 10)
            (fun _ wr => (intOf ((wr.cell? ⟨xb, 1, none⟩).getD undef)).toNat)
          case atStart => exact ⟨_, d, L1, x1, rfl, by rw [← HD.out]; exact HTK.out, htg, HLQ.out, g1, by rw [← HD.out]; exact HBN.out, by rw [← HD.out]; exact hy10⟩
          case round =>
            clear HTK htg HLQ HBN g1
            obtain ⟨hv0, d, Lc, x, rfl, hK, htg, hLc, hx0, hxp, hod⟩ := hrel
            have HK := Lib.hid hK
            cases d with
            | zero =>
              have c1 : wr.cell? ⟨xb, 1, none⟩ = some (.int .i64 od) := hK.box.cell 1 (by decide)
              obtain ⟨fa, fc, hrow, hfr⟩ := hK.fr
              obtain ⟨tb, td, hu, htk⟩ := hK.tk
              have hbox := hK.box
              have honly := hK.only
              have hxb1 := hK.xb1
              have hr1 := hK.r1
              have htk2 := htk.old hK.only
              clear hK
              have L1 := Lib.hid (show ∀ W', Kept wr.heap.size wr W' → (loadVar 74 ⟨r, 2, none⟩).run Try.prog W' = .ok (.slice tb T.length td) W' from
                fun W' hW => run_loadVar_cell (fun _ => by kernel_rfl) (by rw [(hrow.later hW.below).cell 2 (by decide)]; show some u = _; rw [hu]))
              have L2 := Lib.hid (show ∀ W', Kept wr.heap.size wr W' → (loadVar 77 ⟨xb, 0, none⟩).run Try.prog W' = .ok (.agg #[.int .i64 x, .int .i64 od]) W' from
                fun W' hW => load_block ((hbox.later hW.below).cell 0 (by decide)) ((hbox.later hW.below).cell 1 (by decide)))
              go_wp2_with (fail)
              clear c1
              refine wp_region_plan (Kept wr.heap.size wr) (.take 0 (.take 2 (.take 3 (.take 4 (.take 5 (.take 7 (.step 1 (.step 6 (.step 8 (.step 9 (.take 10 (.take 11 .fin)) .fin) .fin) (.step 8 (.step 6 (.step 9 (.take 10 (.take 11 .fin)) .fin) .fin) .fin)) (.step 8 (.step 1 (.step 6 (.step 9 (.take 10 (.take 11 .fin)) .fin) .fin) .fin) .fin)))))))) 12
                (by kernel_rfl) (by kernel_rfl) (by kernel_rfl) (Below.refl _ wr).drew ?_
              intro W0 hW0 hK0
              clear hW0
              refine lexP_yieldE rfl rfl ?_
              apply Exists.intro
              refine ⟨fun W hW => ?_, ?_⟩
              focus (go_simp; exact rfl)
              simp only [List.getElem_toArray, List.getElem_cons_zero, Act.put, List.setIfInBounds_toArray, List.set_cons_zero, List.set_cons_succ]
              refine lexP_yieldE rfl rfl ?_
              apply Exists.intro
              refine ⟨fun W hW => ?_, ?_⟩
              focus (go_simp; exact rfl)
              simp only [List.getElem_toArray, List.getElem_cons_succ, List.getElem_cons_zero, Act.put, List.setIfInBounds_toArray, List.set_cons_zero, List.set_cons_succ]
              refine lexP_yieldE rfl rfl ?_
              apply Exists.intro
              refine ⟨fun W hW => ?_, ?_⟩
              focus (go_simp; exact rfl)
              simp only [List.getElem_toArray, List.getElem_cons_succ, List.getElem_cons_zero, Act.put, List.setIfInBounds_toArray, List.set_cons_zero, List.set_cons_succ]
              refine lexP_yieldE rfl rfl ?_
              apply Exists.intro
              refine ⟨fun W hW => ?_, ?_⟩
              focus (go_simp; exact rfl)
              simp only [List.getElem_toArray, List.getElem_cons_succ, List.getElem_cons_zero, Act.put, List.setIfInBounds_toArray, List.set_cons_zero, List.set_cons_succ]
              refine lexP_load rfl rfl _ _ rfl rfl L1.out ?_
              simp only [List.getElem_toArray, List.getElem_cons_succ, List.getElem_cons_zero, Act.put, List.setIfInBounds_toArray, List.set_cons_zero, List.set_cons_succ]
              refine lexP_load rfl rfl _ _ rfl rfl L2.out ?_
              simp only [List.getElem_toArray, List.getElem_cons_succ, List.getElem_cons_zero, Act.put, List.setIfInBounds_toArray, List.set_cons_zero, List.set_cons_succ]
              have HK0 := Lib.hid hK0
              clear hK0
              refine lexP_or rfl rfl ?_ ?_
              · unfold Oper.wp
                go_simp
                have HK1 := Lib.hid (show Kept wr.heap.size wr (W0.alloc (.cells #[] 77)) from HK0.out.below.alloc HK0.out.below.size _)
                have HO1 := Lib.hid (World.ownsRow_made W0 (e := 77) (base := W0.heap.size) (size := 2) #[] 0 (Nat.le_refl _) (Nat.zero_le _) (by simp))
                have HB1 := Lib.hid (show W0.heap.size ≤ (W0.alloc (.cells #[] 77)).heap.size by simp)
                have HC1 := Lib.hid HK0.out.below.size
                refine ⟨HK1.out, ?_⟩
                clear HK0 
                generalize W0.alloc (.cells #[] 77) = W1 at *
                generalize W0.heap.size = b1 at *
                refine lexP_or rfl rfl ?_ ?_
                · refine wp_append_src _ _ _ 74 rfl b1 77 i0 _ 2 16 Try.underlying74 hi hz0 hz1 hz2 rfl (by decide) _ _ _ HO1.out HB1.out tb T.length td (recV encB T) rfl rfl (recV_len encB_len T) ((htk2.later HK1.out.below).src encB_len) (recV_one encB_one T) (by omega) (by decide) ?_
                  intro v2 W2 hown2 ho2 _
                  have HO2 := Lib.hid hown2
                  have HK2 := Lib.hid (show Kept wr.heap.size wr W2 from ho2.below HK1.out.below HK1.out.below.size (fun q hq => by have := (HO1.out.lt q hq).1; have := HC1.out; omega))
                  have HB2 := Lib.hid (Nat.le_trans HB1.out ho2.size)
                  refine ⟨HK2.out, ?_⟩
                  clear hown2 ho2 HK1 HO1 HB1 
                  simp only [List.getElem_toArray, List.getElem_cons_succ, List.getElem_cons_zero, Act.put, List.setIfInBounds_toArray, List.set_cons_zero, List.set_cons_succ]
                  refine lexP_step rfl rfl ?_
                  unfold Oper.wp
                  go_simp
                  have HK3 := Lib.hid (show Kept wr.heap.size wr (W2.alloc (.cells #[.int .i64 x, .int .i64 od] 77)) from HK2.out.below.alloc HK2.out.below.size _)
                  have HX3 := Lib.hid (block_row W2 x od)
                  have HO3 := Lib.hid (HO2.out.alloc (.cells #[.int .i64 x, .int .i64 od] 77))
                  have HB3 := Lib.hid (show b1 ≤ (W2.alloc (.cells #[.int .i64 x, .int .i64 od] 77)).heap.size from Nat.le_trans HB2.out (by simp))
                  have HE3 := Lib.hid (fun q hq => (HO2.out.lt q hq).2)
                  refine ⟨HK3.out, ?_⟩
                  clear HK2 HO2 HB2
                  generalize (W2.alloc (.cells #[.int .i64 x, .int .i64 od] 77)) = W3 at *
                  generalize W2.heap.size = c3 at *
                  refine lexP_step rfl rfl ?_
                  refine wp_append_src _ _ _ 74 rfl b1 77 i0 _ 2 16 Try.underlying74 hi hz0 hz1 hz2 rfl (by decide) _ _ _ HO3.out HB3.out (some ⟨c3, 0, none⟩) 1 1 (encB (x, (od : Int))) rfl rfl rfl (fun _ => ⟨_, rfl, fun q uu hq => block_src HX3.out q uu hq⟩) (encB_one _) (by omega) (by decide) ?_
                  intro v4 W4 hown4 ho4 _
                  have hown9 : W4.ownsRow b1 77 2 v4 (T ++ [(x, (od : Int))]).length (recV encB (T ++ [(x, (od : Int))])) := by
                    rw [List.length_append, recV_append, recV_single]
                    simpa using hown4
                  have HK4 := Lib.hid (show Kept wr.heap.size wr W4 from ho4.below HK3.out.below HK3.out.below.size (fun q hq => by have := (HO3.out.lt q hq).1; have := HC1.out; omega))
                  have hcs := HC1.out
                  refine ⟨HK4.out, ?_⟩
                  clear hown4 ho4 HK3 HO3 HX3
                  obtain ⟨a9, cap9, hv9, hs9⟩ := RecsAt.of_owns hown9
                  have hr9 := hrow.later HK4.out.below
                  have hf9 := hfr.later HK4.out.below
                  have hc9 : W4.cell? ⟨r, 2, none⟩ = some u := hr9.cell 2 (by decide)
                  have hz9 : W4.frozen? ⟨r, 2, none⟩ = false := hr9.frozen 2
                  have hst9 := Only.setCell (S := Eq r) W4 ⟨r, 2, none⟩ rfl (.slice a9 (T ++ [(x, (od : Int))]).length cap9)
                  have hbx9 := (hbox.later HK4.out.below).only hst9 (by omega)
                  have hxw := hbox.lt
                  have HN := Lib.hid (show BTake w r n L T (od : Int) high (.returned (.tuple #[.int .i64 x, .int .i64 0])) (W4.setCell ⟨r, 2, none⟩ (.slice a9 (T ++ [(x, (od : Int))]).length cap9)) from by
                    unfold BTake
                    rw [HTS.out, ← htg]
                    refine ⟨rfl, .slice fa Lc.length fc, .slice a9 (T ++ [(x, (od : Int))]).length cap9, ⟨(hr9.setCell 2 _).ext (fun i hi => by
                        unfold updV brV
                        rcases (show i = 0 ∨ i = 1 ∨ i = 2 by omega) with rfl | rfl | rfl <;> simp), ⟨fa, fc, rfl, ?_⟩, ⟨a9, cap9, rfl, ?_⟩⟩, ?_⟩
                    · exact (hf9.above hst9 (fun q hq e => by omega)).base (by omega)
                    · exact (hs9.above hst9 (fun q hq e => by omega)).base (by omega)
                    · have hall := honly.trans ((Only.of_below HK4.out.below).trans (hst9.mono (fun q hq => .inl hq.symm)))
                      exact ⟨hall.os, hall.tape, hall.output, hall.size, fun q hq hs => hall.block q hq (fun e => e.elim (fun e => hs e.symm) (fun e => by omega))⟩)
                  have d0 : (W4.setCell ⟨r, 2, none⟩ (.slice a9 (T ++ [(x, (od : Int))]).length cap9)).cell? ⟨xb, 0, none⟩ = some (.int .i64 x) := hbx9.cell 0 (by decide)
                  clear hs9 hst9 hbx9 hr9 hf9 hown9
                  generalize (T ++ [(x, (od : Int))]).length = q9 at *
                  subst hv9
                  simp only [List.getElem_toArray, List.getElem_cons_succ, List.getElem_cons_zero, Act.put, List.setIfInBounds_toArray, List.set_cons_zero, List.set_cons_succ]
                  refine lexP_yieldE rfl rfl ?_
                  apply Exists.intro
                  refine ⟨fun W hW => ?_, ?_⟩
                  focus (go_simp; exact rfl)
                  simp only [List.getElem_toArray, List.getElem_cons_succ, List.getElem_cons_zero, Act.put, List.setIfInBounds_toArray, List.set_cons_zero, List.set_cons_succ]
                  refine lexP_yieldE rfl rfl ?_
                  apply Exists.intro
                  refine ⟨fun W hW => ?_, ?_⟩
                  focus (go_simp; exact rfl)
                  simp only [List.getElem_toArray, List.getElem_cons_succ, List.getElem_cons_zero, Act.put, List.setIfInBounds_toArray, List.set_cons_zero, List.set_cons_succ]
                  refine lexP_last rfl rfl ?_
                  unfold Oper.wp
                  go_simp
                  go_wp2_with (fail)
                  go_ret2
                  exact HN.out
                · refine lexP_step rfl rfl ?_
                  unfold Oper.wp
                  go_simp
                  have HK2 := Lib.hid (show Kept wr.heap.size wr (W1.alloc (.cells #[.int .i64 x, .int .i64 od] 77)) from HK1.out.below.alloc HK1.out.below.size _)
                  have HX2 := Lib.hid (block_row W1 x od)
                  have HO2 := Lib.hid (HO1.out.alloc (.cells #[.int .i64 x, .int .i64 od] 77))
                  have HB2 := Lib.hid (show b1 ≤ (W1.alloc (.cells #[.int .i64 x, .int .i64 od] 77)).heap.size from Nat.le_trans HB1.out (by simp))
                  have HE2 := Lib.hid (fun q hq => (HO1.out.lt q hq).2)
                  refine ⟨HK2.out, ?_⟩
                  clear HK1 HO1 HB1
                  generalize (W1.alloc (.cells #[.int .i64 x, .int .i64 od] 77)) = W2 at *
                  generalize W1.heap.size = c2 at *
                  refine lexP_step rfl rfl ?_
                  refine wp_append_src _ _ _ 74 rfl b1 77 i0 _ 2 16 Try.underlying74 hi hz0 hz1 hz2 rfl (by decide) _ _ _ HO2.out HB2.out tb T.length td (recV encB T) rfl rfl (recV_len encB_len T) ((htk2.later HK2.out.below).src encB_len) (recV_one encB_one T) (by omega) (by decide) ?_
                  intro v3 W3 hown3 ho3 _
                  have HO3 := Lib.hid hown3
                  have HK3 := Lib.hid (show Kept wr.heap.size wr W3 from ho3.below HK2.out.below HK2.out.below.size (fun q hq => by have := (HO2.out.lt q hq).1; have := HC1.out; omega))
                  have HB3 := Lib.hid (Nat.le_trans HB2.out ho3.size)
                  have HX3 := Lib.hid (HX2.out.only ho3 (fun e => absurd (HE2.out _ e) (Nat.lt_irrefl _)))
                  refine ⟨HK3.out, ?_⟩
                  clear hown3 ho3 HK2 HO2 HB2 HX2
                  simp only [List.getElem_toArray, List.getElem_cons_succ, List.getElem_cons_zero, Act.put, List.setIfInBounds_toArray, List.set_cons_zero, List.set_cons_succ]
                  refine lexP_step rfl rfl ?_
                  refine wp_append_src _ _ _ 74 rfl b1 77 i0 _ 2 16 Try.underlying74 hi hz0 hz1 hz2 rfl (by decide) _ _ _ HO3.out HB3.out (some ⟨c2, 0, none⟩) 1 1 (encB (x, (od : Int))) rfl rfl rfl (fun _ => ⟨_, rfl, fun q uu hq => block_src HX3.out q uu hq⟩) (encB_one _) (by omega) (by decide) ?_
                  intro v4 W4 hown4 ho4 _
                  have hown9 : W4.ownsRow b1 77 2 v4 (T ++ [(x, (od : Int))]).length (recV encB (T ++ [(x, (od : Int))])) := by
                    rw [List.length_append, recV_append, recV_single]
                    simpa using hown4
                  have HK4 := Lib.hid (show Kept wr.heap.size wr W4 from ho4.below HK3.out.below HK3.out.below.size (fun q hq => by have := (HO3.out.lt q hq).1; have := HC1.out; omega))
                  have hcs := HC1.out
                  refine ⟨HK4.out, ?_⟩
                  clear hown4 ho4 HK3 HO3 HX3
                  obtain ⟨a9, cap9, hv9, hs9⟩ := RecsAt.of_owns hown9
                  have hr9 := hrow.later HK4.out.below
                  have hf9 := hfr.later HK4.out.below
                  have hc9 : W4.cell? ⟨r, 2, none⟩ = some u := hr9.cell 2 (by decide)
                  have hz9 : W4.frozen? ⟨r, 2, none⟩ = false := hr9.frozen 2
                  have hst9 := Only.setCell (S := Eq r) W4 ⟨r, 2, none⟩ rfl (.slice a9 (T ++ [(x, (od : Int))]).length cap9)
                  have hbx9 := (hbox.later HK4.out.below).only hst9 (by omega)
                  have hxw := hbox.lt
                  have HN := Lib.hid (show BTake w r n L T (od : Int) high (.returned (.tuple #[.int .i64 x, .int .i64 0])) (W4.setCell ⟨r, 2, none⟩ (.slice a9 (T ++ [(x, (od : Int))]).length cap9)) from by
                    unfold BTake
                    rw [HTS.out, ← htg]
                    refine ⟨rfl, .slice fa Lc.length fc, .slice a9 (T ++ [(x, (od : Int))]).length cap9, ⟨(hr9.setCell 2 _).ext (fun i hi => by
                        unfold updV brV
                        rcases (show i = 0 ∨ i = 1 ∨ i = 2 by omega) with rfl | rfl | rfl <;> simp), ⟨fa, fc, rfl, ?_⟩, ⟨a9, cap9, rfl, ?_⟩⟩, ?_⟩
                    · exact (hf9.above hst9 (fun q hq e => by omega)).base (by omega)
                    · exact (hs9.above hst9 (fun q hq e => by omega)).base (by omega)
                    · have hall := honly.trans ((Only.of_below HK4.out.below).trans (hst9.mono (fun q hq => .inl hq.symm)))
                      exact ⟨hall.os, hall.tape, hall.output, hall.size, fun q hq hs => hall.block q hq (fun e => e.elim (fun e => hs e.symm) (fun e => by omega))⟩)
                  have d0 : (W4.setCell ⟨r, 2, none⟩ (.slice a9 (T ++ [(x, (od : Int))]).length cap9)).cell? ⟨xb, 0, none⟩ = some (.int .i64 x) := hbx9.cell 0 (by decide)
                  clear hs9 hst9 hbx9 hr9 hf9 hown9
                  generalize (T ++ [(x, (od : Int))]).length = q9 at *
                  subst hv9
                  simp only [List.getElem_toArray, List.getElem_cons_succ, List.getElem_cons_zero, Act.put, List.setIfInBounds_toArray, List.set_cons_zero, List.set_cons_succ]
                  refine lexP_yieldE rfl rfl ?_
                  apply Exists.intro
                  refine ⟨fun W hW => ?_, ?_⟩
                  focus (go_simp; exact rfl)
                  simp only [List.getElem_toArray, List.getElem_cons_succ, List.getElem_cons_zero, Act.put, List.setIfInBounds_toArray, List.set_cons_zero, List.set_cons_succ]
                  refine lexP_yieldE rfl rfl ?_
                  apply Exists.intro
                  refine ⟨fun W hW => ?_, ?_⟩
                  focus (go_simp; exact rfl)
                  simp only [List.getElem_toArray, List.getElem_cons_succ, List.getElem_cons_zero, Act.put, List.setIfInBounds_toArray, List.set_cons_zero, List.set_cons_succ]
                  refine lexP_last rfl rfl ?_
                  unfold Oper.wp
                  go_simp
                  go_wp2_with (fail)
                  go_ret2
                  exact HN.out
              · refine lexP_step rfl rfl ?_
                unfold Oper.wp
                go_simp
                have HK1 := Lib.hid (show Kept wr.heap.size wr (W0.alloc (.cells #[.int .i64 x, .int .i64 od] 77)) from HK0.out.below.alloc HK0.out.below.size _)
                have HX1 := Lib.hid (block_row W0 x od)
                refine ⟨HK1.out, ?_⟩
                clear HK0  
                generalize (W0.alloc (.cells #[.int .i64 x, .int .i64 od] 77)) = W1 at *
                generalize W0.heap.size = c1 at *
                refine lexP_step rfl rfl ?_
                unfold Oper.wp
                go_simp
                have HK2 := Lib.hid (show Kept wr.heap.size wr (W1.alloc (.cells #[] 77)) from HK1.out.below.alloc HK1.out.below.size _)
                have HO2 := Lib.hid (World.ownsRow_made W1 (e := 77) (base := W1.heap.size) (size := 2) #[] 0 (Nat.le_refl _) (Nat.zero_le _) (by simp))
                have HB2 := Lib.hid (show W1.heap.size ≤ (W1.alloc (.cells #[] 77)).heap.size by simp)
                have HC2 := Lib.hid HK1.out.below.size
                have HX2 := Lib.hid (HX1.out.alloc (.cells #[] 77))
                have HD2 := Lib.hid HX1.out.lt
                refine ⟨HK2.out, ?_⟩
                clear HK1 HX1
                generalize W1.alloc (.cells #[] 77) = W2 at *
                generalize W1.heap.size = b2 at *
                refine lexP_step rfl rfl ?_
                refine wp_append_src _ _ _ 74 rfl b2 77 i0 _ 2 16 Try.underlying74 hi hz0 hz1 hz2 rfl (by decide) _ _ _ HO2.out HB2.out tb T.length td (recV encB T) rfl rfl (recV_len encB_len T) ((htk2.later HK2.out.below).src encB_len) (recV_one encB_one T) (by omega) (by decide) ?_
                intro v3 W3 hown3 ho3 _
                have HO3 := Lib.hid hown3
                have HK3 := Lib.hid (show Kept wr.heap.size wr W3 from ho3.below HK2.out.below HK2.out.below.size (fun q hq => by have := (HO2.out.lt q hq).1; have := HC2.out; omega))
                have HB3 := Lib.hid (Nat.le_trans HB2.out ho3.size)
                have HX3 := Lib.hid (HX2.out.only ho3 (fun e => by have := (HO2.out.lt _ e).1; have := HD2.out; omega))
                refine ⟨HK3.out, ?_⟩
                clear hown3 ho3 HK2 HO2 HB2 HX2
                simp only [List.getElem_toArray, List.getElem_cons_succ, List.getElem_cons_zero, Act.put, List.setIfInBounds_toArray, List.set_cons_zero, List.set_cons_succ]
                refine lexP_step rfl rfl ?_
                refine wp_append_src _ _ _ 74 rfl b2 77 i0 _ 2 16 Try.underlying74 hi hz0 hz1 hz2 rfl (by decide) _ _ _ HO3.out HB3.out (some ⟨c1, 0, none⟩) 1 1 (encB (x, (od : Int))) rfl rfl rfl (fun _ => ⟨_, rfl, fun q uu hq => block_src HX3.out q uu hq⟩) (encB_one _) (by omega) (by decide) ?_
                intro v4 W4 hown4 ho4 _
                have hown9 : W4.ownsRow b2 77 2 v4 (T ++ [(x, (od : Int))]).length (recV encB (T ++ [(x, (od : Int))])) := by
                  rw [List.length_append, recV_append, recV_single]
                  simpa using hown4
                have HK4 := Lib.hid (show Kept wr.heap.size wr W4 from ho4.below HK3.out.below HK3.out.below.size (fun q hq => by have := (HO3.out.lt q hq).1; have := HC2.out; omega))
                have hcs := HC2.out
                refine ⟨HK4.out, ?_⟩
                clear hown4 ho4 HK3 HO3 HX3
                obtain ⟨a9, cap9, hv9, hs9⟩ := RecsAt.of_owns hown9
                have hr9 := hrow.later HK4.out.below
                have hf9 := hfr.later HK4.out.below
                have hc9 : W4.cell? ⟨r, 2, none⟩ = some u := hr9.cell 2 (by decide)
                have hz9 : W4.frozen? ⟨r, 2, none⟩ = false := hr9.frozen 2
                have hst9 := Only.setCell (S := Eq r) W4 ⟨r, 2, none⟩ rfl (.slice a9 (T ++ [(x, (od : Int))]).length cap9)
                have hbx9 := (hbox.later HK4.out.below).only hst9 (by omega)
                have hxw := hbox.lt
                have HN := Lib.hid (show BTake w r n L T (od : Int) high (.returned (.tuple #[.int .i64 x, .int .i64 0])) (W4.setCell ⟨r, 2, none⟩ (.slice a9 (T ++ [(x, (od : Int))]).length cap9)) from by
                  unfold BTake
                  rw [HTS.out, ← htg]
                  refine ⟨rfl, .slice fa Lc.length fc, .slice a9 (T ++ [(x, (od : Int))]).length cap9, ⟨(hr9.setCell 2 _).ext (fun i hi => by
                      unfold updV brV
                      rcases (show i = 0 ∨ i = 1 ∨ i = 2 by omega) with rfl | rfl | rfl <;> simp), ⟨fa, fc, rfl, ?_⟩, ⟨a9, cap9, rfl, ?_⟩⟩, ?_⟩
                  · exact (hf9.above hst9 (fun q hq e => by omega)).base (by omega)
                  · exact (hs9.above hst9 (fun q hq e => by omega)).base (by omega)
                  · have hall := honly.trans ((Only.of_below HK4.out.below).trans (hst9.mono (fun q hq => .inl hq.symm)))
                    exact ⟨hall.os, hall.tape, hall.output, hall.size, fun q hq hs => hall.block q hq (fun e => e.elim (fun e => hs e.symm) (fun e => by omega))⟩)
                have d0 : (W4.setCell ⟨r, 2, none⟩ (.slice a9 (T ++ [(x, (od : Int))]).length cap9)).cell? ⟨xb, 0, none⟩ = some (.int .i64 x) := hbx9.cell 0 (by decide)
                clear hs9 hst9 hbx9 hr9 hf9 hown9
                generalize (T ++ [(x, (od : Int))]).length = q9 at *
                subst hv9
                simp only [List.getElem_toArray, List.getElem_cons_succ, List.getElem_cons_zero, Act.put, List.setIfInBounds_toArray, List.set_cons_zero, List.set_cons_succ]
                refine lexP_yieldE rfl rfl ?_
                apply Exists.intro
                refine ⟨fun W hW => ?_, ?_⟩
                focus (go_simp; exact rfl)
                simp only [List.getElem_toArray, List.getElem_cons_succ, List.getElem_cons_zero, Act.put, List.setIfInBounds_toArray, List.set_cons_zero, List.set_cons_succ]
                refine lexP_yieldE rfl rfl ?_
                apply Exists.intro
                refine ⟨fun W hW => ?_, ?_⟩
                focus (go_simp; exact rfl)
                simp only [List.getElem_toArray, List.getElem_cons_succ, List.getElem_cons_zero, Act.put, List.setIfInBounds_toArray, List.set_cons_zero, List.set_cons_succ]
                refine lexP_last rfl rfl ?_
                unfold Oper.wp
                go_simp
                go_wp2_with (fail)
                go_ret2
                exact HN.out
            | succ d =>
              obtain ⟨k, hk⟩ : ∃ k, od + d = k := ⟨_, rfl⟩
              obtain ⟨p, hp⟩ : ∃ p, 2 ^ k = p := ⟨_, rfl⟩
              have hp2 := two_pow_small (k := k) (by omega)
              have hxp2 : x + (p : Int) + (p : Int) ≤ 4000 := by
                have e : 2 ^ (od + (d + 1)) = p + p := by rw [← hp, ← hk, ← Nat.add_assoc, Nat.pow_succ]; omega
                rw [e] at hxp
                omega
              rw [hp] at hp2
              have c0 : wr.cell? ⟨xb, 0, none⟩ = some (.int .i64 x) := hK.box.cell 0 (by decide)
              have c1 : wr.cell? ⟨xb, 1, none⟩ = some (.int .i64 ((k : Int) + 1)) := by
                rw [hK.box.cell 1 (by decide), ← hk]
                show some (Value.int .i64 _) = _
                congr 2
              have f1 : wr.frozen? ⟨xb, 1, none⟩ = false := hK.box.frozen 1
              have hst := Only.setCell (S := Eq xb) wr ⟨xb, 1, none⟩ rfl (.int .i64 k)
              have hbx : RowAt (wr.setCell ⟨xb, 1, none⟩ (.int .i64 k)) xb 2 (blkV x k) := (hK.box.setCell 1 (.int .i64 k)).ext (fun i hi => by
                unfold updV blkV
                rcases (show i = 0 ∨ i = 1 by omega) with rfl | rfl <;> simp)
              have HK5 := Lib.hid (hK.put hbx hst)
              have d0 : (wr.setCell ⟨xb, 1, none⟩ (.int .i64 k)).cell? ⟨xb, 0, none⟩ = some (.int .i64 x) := hbx.cell 0 (by decide)
              have d1 : (wr.setCell ⟨xb, 1, none⟩ (.int .i64 k)).cell? ⟨xb, 1, none⟩ = some (.int .i64 k) := hbx.cell 1 (by decide)
              have HST := Lib.hid (store_block (wr.setCell ⟨xb, 1, none⟩ (.int .i64 k)) #[.int .i64 0, .int .i64 0] rfl (x + p) k)
              have HP := Lib.hid hp
              have hk10 : k ≤ 10 := by omega
              have hlx := hbx.lt
              have hbl := (Below.refl _ (wr.setCell ⟨xb, 1, none⟩ (.int .i64 k))).alloc (Nat.le_refl _) (.cells #[.int .i64 (x + p), .int .i64 k] 77)
              have e0 : ((wr.setCell ⟨xb, 1, none⟩ (.int .i64 k)).alloc (.cells #[.int .i64 (x + p), .int .i64 k] 77)).cell? ⟨xb, 0, none⟩ = some (.int .i64 x) := by rw [hbl.cell (p := ⟨xb, 0, none⟩) hlx]; exact d0
              have e1 : ((wr.setCell ⟨xb, 1, none⟩ (.int .i64 k)).alloc (.cells #[.int .i64 (x + p), .int .i64 k] 77)).cell? ⟨xb, 1, none⟩ = some (.int .i64 k) := by rw [hbl.cell (p := ⟨xb, 1, none⟩) hlx]; exact d1
              have HH := Lib.hid (block_row (wr.setCell ⟨xb, 1, none⟩ (.int .i64 k)) (x + p) k)
              have hsz : (wr.setCell ⟨xb, 1, none⟩ (.int .i64 k)).heap.size = wr.heap.size := by simp [World.setCell]
              have HK6 := Lib.hid (HK5.out.later hbl)
              rw [hsz] at HH
              have h0 : ((wr.setCell ⟨xb, 1, none⟩ (.int .i64 k)).alloc (.cells #[.int .i64 (x + p), .int .i64 k] 77)).cell? ⟨wr.heap.size, 0, none⟩ = some (.int .i64 (x + p)) := HH.out.cell 0 (by decide)
              have h1 : ((wr.setCell ⟨xb, 1, none⟩ (.int .i64 k)).alloc (.cells #[.int .i64 (x + p), .int .i64 k] 77)).cell? ⟨wr.heap.size, 1, none⟩ = some (.int .i64 k) := HH.out.cell 1 (by decide)
              have HXB := Lib.hid (show xb < wr.heap.size by rw [← hsz]; exact hlx)
              have HRX := Lib.hid (show r < wr.heap.size by have := hK.r1; have := hK.only.size; omega)
              rw [hsz] at HST
              have HC1 := Lib.hid c1
              have HNX := Lib.hid (show ∀ q : Bool, q = high → splitL q od d (if q = true then putL Lc (x, (k : Int)) else putL Lc (x + (p : Int), (k : Int))) (if q = true then x + (p : Int) else x) = tgt from fun q hq => by
                subst hq
                rw [← htg, ← hp, ← hk]
                cases q <;> rfl)
              clear hst hbx hK hp hbl hlx hsz HK5 htg
              have hlen := putL_len Lc
              cases high with
              | true =>
                go_wp2_with (first | refine wpList_shl1 rfl _ _ _ _ rfl .u64 k p hk10 HP.out rfl rfl ?_ | refine wpList_store_run rfl 77 _ _ rfl _ _ _ rfl rfl HST.out ?_)
                generalize (wr.setCell ⟨xb, 1, none⟩ (.int .i64 k)).alloc (.cells #[.int .i64 (x + p), .int .i64 k] 77) = W6 at *
                generalize wr.heap.size = hb at *
                obtain ⟨v6, hR6, _⟩ := HK6.out.ref
                refine (put_any hR6 (by omega) (x, (k : Int))).mono ?_
                rintro e W7 ⟨rfl, hP⟩
                have HK7 := Lib.hid (HK6.out.putB hP)
                have HH7 := Lib.hid (HH.out.only (show Only (Eq r) W6 W7 from by obtain ⟨_, _, _, _, ho⟩ := hP; exact ho) (by have := HRX.out; omega))
                have h0 : W7.cell? ⟨hb, 0, none⟩ = some (.int .i64 (x + p)) := HH7.out.cell 0 (by decide)
                have h1 : W7.cell? ⟨hb, 1, none⟩ = some (.int .i64 k) := HH7.out.cell 1 (by decide)
                have HTH := Lib.hid (HK7.out.box.there 0 2 (by decide))
                have hset := Only.setCells (S := Eq xb) (b := xb) rfl [.int .i64 (x + p), .int .i64 k] 0 W7
                have HK8 := Lib.hid (HK7.out.put (x' := x + p) (y' := k) ((HK7.out.box.setCells [.int .i64 (x + p), .int .i64 k] 0 W7 _).ext (fun i hi => by
                  rcases (show i = 0 ∨ i = 1 by omega) with rfl | rfl <;> simp [blkV])) hset)
                clear hP HK7 HH7 HK6 HH e0 e1 hset hR6
                go_wp2_with (refine wpList_store_mid rfl 77 _ _ rfl xb 0 #[.int .i64 (x + p), .int .i64 k] rfl rfl HTH.out sizeBlock (two_all _ _) ?_)
                simp only [Act.put]
                go_roundw
                case rel => exact ⟨_, d, putL Lc (x, (k : Int)), x + p, rfl, by rw [hk]; exact HK8.out, HNX.out true rfl, by rw [hlen]; omega, by omega, by rw [hk, HP.out]; exact hxp2, by omega⟩
                case measure =>
                  rw [HC1.out, HK8.out.box.cell 1 (by decide)]
                  show (k : Int).toNat < ((k : Int) + 1).toNat
                  omega
              | false =>
                go_wp2_with (first | refine wpList_shl1 rfl _ _ _ _ rfl .u64 k p hk10 HP.out rfl rfl ?_ | refine wpList_store_run rfl 77 _ _ rfl _ _ _ rfl rfl HST.out ?_)
                generalize (wr.setCell ⟨xb, 1, none⟩ (.int .i64 k)).alloc (.cells #[.int .i64 (x + p), .int .i64 k] 77) = W6 at *
                generalize wr.heap.size = hb at *
                obtain ⟨v6, hR6, _⟩ := HK6.out.ref
                refine (put_any hR6 (by omega) (x + (p : Int), (k : Int))).mono ?_
                rintro e W7 ⟨rfl, hP⟩
                have HK7 := Lib.hid (HK6.out.putB hP)
                clear hP HK6 HH e0 e1 h0 h1 hR6
                go_wp2_with (fail)
                go_roundw
                case rel => exact ⟨_, d, putL Lc (x + (p : Int), (k : Int)), x, rfl, by rw [hk]; exact HK7.out, HNX.out false rfl, by rw [hlen]; omega, hx0, by rw [hk, HP.out]; omega, by omega⟩
                case measure =>
                  rw [HC1.out, HK7.out.box.cell 1 (by decide)]
                  show (k : Int).toNat < ((k : Int) + 1).toNat
                  omega
  · have HN := Lib.hid (BTake.same R (Below.refl _ w) (show takeS L T order high = (0, 2, L, T) from if_neg ho))
    have hcs : order < 0 ∨ (0 ≤ order ∧ 10 < order) := by omega
    clear R ho
    rcases hcs with h1 | ⟨h1, h2⟩
    all_goals
      go_enter Try.func36, Try.ntmps36
      go_wp2_with (fail)
      go_ret2
      exact HN.out
end
end
/-! buddy's document: Give. -/
section
open Go.RowKit Go

/-- The buddy of a block of order o at x, and where both begin. -/
def budA (x : Int) (o : Nat) : Int := if x / ((2 ^ o : Nat) : Int) % 2 = 1 then x - ((2 ^ o : Nat) : Int) else x + ((2 ^ o : Nat) : Int)
def lowA (x : Int) (o : Nat) : Int := if x / ((2 ^ o : Nat) : Int) % 2 = 1 then x - ((2 ^ o : Nat) : Int) else x
/-- A block comes back: d orders may be left above it. -/
def giveL : Nat → List (Int × Int) → Int → Nat → List (Int × Int)
  | 0, L, x, o => putL L (x, (o : Int))
  | d + 1, L, x, o => if L.contains (budA x o, (o : Int)) = true then giveL d (dropL L (budA x o, (o : Int))) (lowA x o) (o + 1) else putL L (x, (o : Int))
theorem low_in {x : Int} {o : Nat} (h : 0 ≤ x) : 0 ≤ lowA x o ∧ lowA x o ≤ x := by
  unfold lowA
  have hp := Nat.one_le_two_pow (n := o)
  generalize 2 ^ o = p at *
  split
  · rename_i hc
    have hd := Int.emod_add_mul_ediv x p
    have h0 := Int.emod_nonneg x (show (p : Int) ≠ 0 by omega)
    have h1 : 1 ≤ x / (p : Int) := by
      have := Int.ediv_nonneg h (show (0 : Int) ≤ p by omega)
      omega
    have h2 : (p : Int) * 1 ≤ (p : Int) * (x / (p : Int)) := Int.mul_le_mul_of_nonneg_left h1 (by omega)
    omega
  · omega

/-- The node while a block comes back: the block at xb, which none of the lists lies in. -/
structure GvAt (w : World) (r n xb : Nat) (L T : List (Int × Int)) (x y : Int) (wr : World) : Prop where
  ls : ∃ a c b d, RowAt wr r 3 (brV n (.slice a L.length c) (.slice b T.length d)) ∧ RecsAt wr (r + 1) a encB 2 L ∧ RecsAt wr (r + 1) b encB 2 T ∧ (∀ g, a = some ⟨g, 0, none⟩ → 0 < L.length → g ≠ xb) ∧ ∀ g, b = some ⟨g, 0, none⟩ → 0 < T.length → g ≠ xb
  box : RowAt wr xb 2 (blkV x y)
  only : Only (fun k => k = r ∨ w.heap.size ≤ k) w wr
  xb1 : w.heap.size ≤ xb
  r1 : r < w.heap.size
section
variable {w wr w' : World} {r n xb : Nat} {L T : List (Int × Int)} {x y : Int}
theorem RecsAt.aside {α : Type} {enc : α → List Value} {s : Nat} {B : Nat} {S : Nat → Prop} {a : Option Addr} {M : List α} (h : RecsAt wr B a enc s M) (ho : Only S wr w') (hs : ∀ g, a = some ⟨g, 0, none⟩ → 0 < M.length → ¬ S g) : RecsAt w' B a enc s M := fun hp => by
  obtain ⟨g, e, hg, hlt, A, t, hA, hi⟩ := h hp
  exact ⟨g, e, hg, Nat.lt_of_lt_of_le hlt ho.size, A, t, by rw [ho.block g hlt (hs g e hp)]; exact hA, hi⟩
theorem GvAt.ref (K : GvAt w r n xb L T x y wr) : ∃ a c b d, BRef wr r n L T (.slice a L.length c) (.slice b T.length d) := by
  obtain ⟨a, c, b, d, hr, h1, h2, _⟩ := K.ls
  exact ⟨a, c, b, d, hr, ⟨a, c, rfl, h1⟩, ⟨b, d, rfl, h2⟩⟩
theorem GvAt.later (K : GvAt w r n xb L T x y wr) (h : Below wr.heap.size wr w') : GvAt w r n xb L T x y w' := by
  obtain ⟨a, c, b, d, hr, h1, h2, h3, h4⟩ := K.ls
  exact ⟨⟨a, c, b, d, hr.later h, h1.later h, h2.later h, h3, h4⟩, K.box.later h, K.only.trans (Only.of_below h), K.xb1, K.r1⟩
/-- Its block turns. -/
theorem GvAt.put (K : GvAt w r n xb L T x y wr) {x' y' : Int} (hb : RowAt w' xb 2 (blkV x' y')) (h : Only (Eq xb) wr w') : GvAt w r n xb L T x' y' w' := by
  obtain ⟨a, c, b, d, hr, h1, h2, h3, h4⟩ := K.ls
  have e1 := K.xb1
  have e2 := K.r1
  exact ⟨⟨a, c, b, d, hr.only h (by omega), h1.aside h (fun g e hp hx => h3 g e hp hx.symm), h2.aside h (fun g e hp hx => h4 g e hp hx.symm), h3, h4⟩, hb, K.only.trans ⟨h.os, h.tape, h.output, h.size, fun k hk hs => h.block k hk (fun e => hs (.inr (by omega)))⟩, K.xb1, K.r1⟩
/-- The lists laid anew. -/
theorem GvAt.free (K : GvAt w r n xb L T x y wr) {L' : List (Int × Int)} {a : Option Addr} {c : Nat} (h : RecsAt wr (xb + 1) a encB 2 L') : GvAt w r n xb L' T x y (wr.setCell ⟨r, 1, none⟩ (.slice a L'.length c)) := by
  obtain ⟨_, _, b, d, hr, _, h2, _, h4⟩ := K.ls
  have e1 := K.xb1
  have e2 := K.r1
  have ho := Only.setCell (S := Eq r) wr ⟨r, 1, none⟩ rfl (.slice a L'.length c)
  refine ⟨⟨a, c, b, d, (hr.setCell 1 _).ext (fun i hi => ?_), (h.above ho (fun g hg e => by omega)).base (by omega), h2.above ho (fun g hg e => by omega), fun g e hp => ?_, h4⟩, K.box.only ho (by omega), K.only.trans (ho.mono (fun k hk => .inl hk.symm)), K.xb1, K.r1⟩
  · unfold updV brV
    rcases (show i = 0 ∨ i = 1 ∨ i = 2 by omega) with rfl | rfl | rfl <;> simp
  · obtain ⟨g', e', hg, _⟩ := h hp
    rw [e] at e'
    cases e'
    omega
end

def giveS (L T : List (Int × Int)) (at1 order : Int) : Int × List (Int × Int) × List (Int × Int) :=
  if T.contains (at1, order) = true then (0, giveL (10 - order.toNat) L at1 order.toNat, dropL T (at1, order)) else (2, L, T)
section
variable {w w' : World} {r n : Nat} {L T : List (Int × Int)} {v u : Value}
def BGive (w : World) (r n : Nat) (L T : List (Int × Int)) (at1 order : Int) (e : Ending) (w' : World) : Prop :=
  e = .returned (.int .i64 (giveS L T at1 order).1) ∧ ∃ v' u', BRef w' r n (giveS L T at1 order).2.1 (giveS L T at1 order).2.2 v' u' ∧ Only (Eq r) w w'
set_option maxRecDepth 100000 in
set_option maxHeartbeats 4000000 in
theorem give_any (R : BRef w r n L T v u) (hl : L.length ≤ 800) (hT : T.length ≤ 900) (hg : GoodL T) (at1 order : Int) :
    Calls Try.prog 40 #[.pointer (some ⟨r, 0, none⟩), .int .i64 at1, .int .i64 order] w (BGive w r n L T at1 order) := by
  have HR := Lib.hid R
  obtain ⟨a, c, hv, hS⟩ := R.fr
  obtain ⟨b, d, hu, hU⟩ := R.tk
  have hrr := R.lt
  have HV := Lib.hid hv
  have HU := Lib.hid hu
  have hb2 : Below w.heap.size w (w.alloc (.cells #[.int .i64 at1, .int .i64 order] 77)) := (Below.refl _ _).alloc (Nat.le_refl _) _
  have HB := Lib.hid hb2
  have HX := Lib.hid (block_row w at1 order)
  have HST := Lib.hid (store_block w #[.int .i64 0, .int .i64 0] rfl at1 order)
  have HRW := Lib.hid (R.later hb2)
  have HSW := Lib.hid (hS.later hb2)
  have HUW := Lib.hid (hU.later hb2)
  have hxw := (block_row w at1 order).lt
  have HOS := Lib.hid (fun g (hp : 0 < L.length) (e : a = some ⟨g, 0, none⟩) => show g < w.heap.size from by
    obtain ⟨g', e', _, hlt, _⟩ := hS hp
    rw [e] at e'
    cases e'
    exact hlt)
  clear R hS hU hv hu hb2
  go_enter Try.func40, Try.ntmps40
  go_wp2_with (refine wpList_store_run rfl 77 _ _ rfl w.heap.size _ _ rfl rfl HST.out ?_)
  clear HST
  generalize hxb : w.heap.size = xb at *
  generalize w.alloc (.cells #[.int .i64 at1, .int .i64 order] 77) = W at *
  have L1 := Lib.hid (show ∀ W', Kept W.heap.size W W' → (loadVar 74 ⟨r, 2, none⟩).run Try.prog W' = .ok (.slice b T.length d) W' from
    fun W' hW => run_loadVar_cell (fun _ => by kernel_rfl) (by rw [(HRW.out.later hW.below).c2, HU.out]))
  have L2 := Lib.hid (show ∀ W', Kept W.heap.size W W' → (loadVar 77 ⟨xb, 0, none⟩).run Try.prog W' = .ok (.agg #[.int .i64 at1, .int .i64 order]) W' from
    fun W' hW => load_block ((HX.out.later hW.below).cell 0 (by decide)) ((HX.out.later hW.below).cell 1 (by decide)))
  refine wp_region_lex1 (Kept W.heap.size W) [(0, false), (1, false), (2, false), (3, false), (4, false), (5, true), (6, false), (7, false), (8, false), (9, false), (10, false)]
    (by kernel_rfl) (by kernel_rfl) rfl (by kernel_rfl) (Below.refl _ W).drew ?_
  intro W0 hW0 hK0
  clear hW0
  refine lexH_yieldE rfl rfl ?_
  apply Exists.intro
  refine ⟨fun W hW => ?_, ?_⟩
  focus (go_simp; exact rfl)
  simp only [List.getElem_toArray, List.getElem_cons_zero, Act.put, List.setIfInBounds_toArray, List.set_cons_zero, List.set_cons_succ]
  refine lexH_yieldE rfl rfl ?_
  apply Exists.intro
  refine ⟨fun W hW => ?_, ?_⟩
  focus (go_simp; exact rfl)
  simp only [List.getElem_toArray, List.getElem_cons_succ, List.getElem_cons_zero, Act.put, List.setIfInBounds_toArray, List.set_cons_zero, List.set_cons_succ]
  refine lexH_yieldE rfl rfl ?_
  apply Exists.intro
  refine ⟨fun W hW => ?_, ?_⟩
  focus (go_simp; exact rfl)
  simp only [List.getElem_toArray, List.getElem_cons_succ, List.getElem_cons_zero, Act.put, List.setIfInBounds_toArray, List.set_cons_zero, List.set_cons_succ]
  refine lexH_load rfl rfl _ _ rfl rfl L1.out ?_
  simp only [List.getElem_toArray, List.getElem_cons_succ, List.getElem_cons_zero, Act.put, List.setIfInBounds_toArray, List.set_cons_zero, List.set_cons_succ]
  refine lexH_load rfl rfl _ _ rfl rfl L2.out ?_
  simp only [List.getElem_toArray, List.getElem_cons_succ, List.getElem_cons_zero, Act.put, List.setIfInBounds_toArray, List.set_cons_zero, List.set_cons_succ]
  refine lexH_call 58 #[.slice b T.length d, .agg #[.int .i64 at1, .int .i64 order]] rfl rfl ?_ ?_
  focus (go_simp; done)
  refine (drop_any (HUW.out.later hK0.below) hT d (at1, order)).mono ?_
  rintro e W3 ⟨b3, d3, rfl, hs3, hb3⟩
  generalize hct : T.contains (at1, order) = cb
  have HCT := Lib.hid hct
  clear hct
  have HK3 := Lib.hid (show Kept W.heap.size W W3 from hK0.below.trans (hb3.mono hK0.below.size))
  have HS3 := Lib.hid (hs3.base hK0.below.size)
  refine ⟨_, rfl, HK3.out, ?_⟩
  clear hs3 hb3 hK0
  simp only [List.getElem_toArray, List.getElem_cons_succ, List.getElem_cons_zero, Act.put, List.setIfInBounds_toArray, List.set_cons_zero, List.set_cons_succ]
  refine lexH_yieldE rfl rfl ?_
  apply Exists.intro
  refine ⟨fun W hW => ?_, ?_⟩
  focus (go_simp; exact rfl)
  simp only [List.getElem_toArray, List.getElem_cons_succ, List.getElem_cons_zero, Act.put, List.setIfInBounds_toArray, List.set_cons_zero, List.set_cons_succ]
  refine lexH_yieldE rfl rfl ?_
  apply Exists.intro
  refine ⟨fun W hW => ?_, ?_⟩
  focus (go_simp; exact rfl)
  simp only [List.getElem_toArray, List.getElem_cons_succ, List.getElem_cons_zero, Act.put, List.setIfInBounds_toArray, List.set_cons_zero, List.set_cons_succ]
  refine lexH_yieldE rfl rfl ?_
  apply Exists.intro
  refine ⟨fun W hW => ?_, ?_⟩
  focus (go_simp; exact rfl)
  simp only [List.getElem_toArray, List.getElem_cons_succ, List.getElem_cons_zero, Act.put, List.setIfInBounds_toArray, List.set_cons_zero, List.set_cons_succ]
  refine lexH_yieldE rfl rfl ?_
  apply Exists.intro
  refine ⟨fun W hW => ?_, ?_⟩
  focus (go_simp; exact rfl)
  simp only [List.getElem_toArray, List.getElem_cons_succ, List.getElem_cons_zero, Act.put, List.setIfInBounds_toArray, List.set_cons_zero, List.set_cons_succ]
  refine lexH_yieldE rfl rfl ?_
  apply Exists.intro
  refine ⟨fun W hW => ?_, ?_⟩
  focus (go_simp; exact rfl)
  simp only [List.getElem_toArray, List.getElem_cons_succ, List.getElem_cons_zero, Act.put, List.setIfInBounds_toArray, List.set_cons_zero, List.set_cons_succ]
  refine lexH_nil ?_
  cases cb with
  | false =>
    have HN := Lib.hid (show BGive w r n L T at1 order (.returned (.int .i64 2)) W3 from by
      unfold BGive giveS
      rw [if_neg (by rw [HCT.out]; decide)]
      exact ⟨rfl, v, u, HRW.out.later HK3.out.below, Only.of_below (by rw [hxb]; exact HB.out.trans (HK3.out.below.mono (by rw [← hxb]; exact HB.out.size)))⟩)
    clear HK3 HS3 HRW HX L1 L2
    go_wp2_with (fail)
    go_ret
    exact HN.out
  | true =>
    have hgt := hg (at1, order) (List.contains_iff_mem.1 HCT.out)
    obtain ⟨g1, g2, g3, g4⟩ := hgt
    dsimp only at g1 g2 g3 g4
    obtain ⟨od, rfl⟩ := Int.eq_ofNat_of_zero_le g3
    have HGS := Lib.hid (show giveS L T at1 (od : Int) = (0, giveL (10 - od) L at1 od, dropL T (at1, (od : Int))) from if_pos HCT.out)
    have c2 : W3.cell? ⟨r, 2, none⟩ = some u := (HRW.out.later HK3.out.below).c2
    have f2 : W3.frozen? ⟨r, 2, none⟩ = false := (HRW.out.later HK3.out.below).row.frozen 2
    have hst := Only.setCell (S := Eq r) W3 ⟨r, 2, none⟩ rfl (.slice b3 (dropL T (at1, (od : Int))).length d3)
    have hbw : Below w.heap.size w W3 := by rw [hxb]; exact HB.out.trans (HK3.out.below.mono (by rw [← hxb]; exact HB.out.size))
    have HGV := Lib.hid (show GvAt w r n xb L (dropL T (at1, (od : Int))) at1 (od : Int) (W3.setCell ⟨r, 2, none⟩ (.slice b3 (dropL T (at1, (od : Int))).length d3)) from
      ⟨⟨a, c, b3, d3, ((HRW.out.later HK3.out.below).row.setCell 2 _).ext (fun i hi => by
          unfold updV brV
          rw [HV.out]
          rcases (show i = 0 ∨ i = 1 ∨ i = 2 by omega) with rfl | rfl | rfl <;> simp),
        (HSW.out.later HK3.out.below).above hst (fun q hq e => by omega), ((HS3.out.above hst (fun q hq e => by omega)).base (by omega)),
        fun q e hp => by have := HOS.out q hp e; omega, fun q e hp => by
          obtain ⟨q', e', hq, _⟩ := HS3.out hp
          rw [e] at e'
          cases e'
          omega⟩,
       (HX.out.later HK3.out.below).only hst (by omega), (Only.of_below hbw).trans (hst.mono (fun q hq => .inl hq.symm)), by omega, by omega⟩)
    have HXB := Lib.hid (show w.heap.size ≤ xb by omega)
    have hTL := dropL_len T (at1, (od : Int))
    clear hst hbw HK3 HS3 HRW HX L1 L2 HSW HUW HB HOS HR HV HU
    generalize hW5 : W3.setCell ⟨r, 2, none⟩ (.slice b3 (dropL T (at1, (od : Int))).length d3) = W5 at HGV
    go_wp2_with (fail)
    clear hW5 c2 f2
    generalize dropL T (at1, (od : Int)) = T' at *
    generalize htg : giveL (10 - od) L at1 od = tgt at HGS
    have HG4 := Lib.hid g4
    have hx4 : at1 ≤ 4000 := by have := Int.natCast_nonneg (2 ^ (od : Int).toNat); omega
    clear g4
    go_loopw [10, 11, 12, 13, 14] (fun s1 s2 s3 s4 s5 wr => ∃ (q1 q2 q3 q4 q5 : Value) (Lc : List (Int × Int)) (x : Int) (o : Nat), s1 = q1 ∧ s2 = q2 ∧ s3 = q3 ∧ s4 = q4 ∧ s5 = q5 ∧ GvAt w r n xb Lc T' x (o : Int) wr ∧ giveL (10 - o) Lc x o = tgt ∧ o ≤ 10 ∧ Lc.length ≤ 800 ∧ 0 ≤ x ∧ x ≤ 4000)
      (fun _ _ _ _ _ wr => (10 - intOf ((wr.cell? ⟨xb, 1, none⟩).getD undef)).toNat)
    case atStart => exact ⟨_, _, _, _, _, L, at1, od, rfl, rfl, rfl, rfl, rfl, HGV.out, htg, by have := HG4.out; omega, hl, g1, hx4⟩
    case round =>
      clear HGV htg
      obtain ⟨q1, q2, q3, q4, q5, Lc, x, o, rfl, rfl, rfl, rfl, rfl, hG, htg, ho10, hLc, hx0, hx1⟩ := hrel
      have HG := Lib.hid hG
      have c0 : wr.cell? ⟨xb, 0, none⟩ = some (.int .i64 x) := hG.box.cell 0 (by decide)
      have c1 : wr.cell? ⟨xb, 1, none⟩ = some (.int .i64 o) := hG.box.cell 1 (by decide)
      clear hG
      by_cases ho : o < 10
      · obtain ⟨p, hp⟩ : ∃ p, 2 ^ o = p := ⟨_, rfl⟩
        have hp2 := two_pow_small (k := o) ho10
        rw [hp] at hp2
        obtain ⟨p1, p2⟩ := hp2
        have HP := Lib.hid hp
        have hbl := (Below.refl _ wr).alloc (Nat.le_refl _) (.cells #[.int .i64 (x + p), .int .i64 o] 77)
        have hlx : xb < wr.heap.size := HG.out.box.lt
        have e0 : (wr.alloc (.cells #[.int .i64 (x + p), .int .i64 o] 77)).cell? ⟨xb, 0, none⟩ = some (.int .i64 x) := by rw [hbl.cell (p := ⟨xb, 0, none⟩) hlx]; exact c0
        have e1 : (wr.alloc (.cells #[.int .i64 (x + p), .int .i64 o] 77)).cell? ⟨xb, 1, none⟩ = some (.int .i64 o) := by rw [hbl.cell (p := ⟨xb, 1, none⟩) hlx]; exact c1
        have HH := Lib.hid (block_row wr (x + p) o)
        have HST := Lib.hid (store_block wr #[.int .i64 0, .int .i64 0] rfl (x + p) o)
        have hbx : Below wr.heap.size wr (wr.alloc (.cells #[.int .i64 (x + p), .int .i64 o] 77)) := hbl
        have HX1 := Lib.hid (show xb + 1 ≤ (wr.alloc (.cells #[.int .i64 (x + p), .int .i64 o] 77)).heap.size by simp; omega)
        have c1' := c1
        have HC1' := Lib.hid c1'
        clear hp c1'
        by_cases hodd : x / (p : Int) % 2 = 1
        · have HBA := Lib.hid (show budA x o = x - (p : Int) by unfold budA; rw [HP.out, if_pos hodd])
          have HLA := Lib.hid (show lowA x o = x - (p : Int) by unfold lowA; rw [HP.out, if_pos hodd])
          have eh : ((x / (p : Int)).tmod 2 == 1) = true := by rw [Int.tmod_eq_emod_of_nonneg (Int.ediv_nonneg hx0 (by omega)), hodd]; rfl
          have h0 : (wr.alloc (.cells #[.int .i64 (x + p), .int .i64 o] 77)).cell? ⟨wr.heap.size, 0, none⟩ = some (.int .i64 (x + p)) := HH.out.cell 0 (by decide)
          have hf : (wr.alloc (.cells #[.int .i64 (x + p), .int .i64 o] 77)).frozen? ⟨wr.heap.size, 0, none⟩ = false := HH.out.frozen 0
          have HOB := Lib.hid (block_row wr (x - p) o)
          have HGZ := Lib.hid (HG.out.later ((Below.refl _ wr).alloc (Nat.le_refl _) (.cells #[.int .i64 (x - p), .int .i64 o] 77)))
          have HXZ := Lib.hid (show xb + 1 ≤ (wr.alloc (.cells #[.int .i64 (x - p), .int .i64 o] 77)).heap.size by simp; omega)
          clear hbl hbx hodd HG
          go_wp2_with (first | refine wpList_shl1 rfl _ _ _ _ rfl .u64 o p ho10 HP.out rfl rfl ?_ | refine wpList_store_run rfl 77 _ _ rfl wr.heap.size _ _ rfl rfl HST.out ?_)
          clear h0 hf e0 e1 c0 c1 HST HH
          have c1' := HC1'.out
          generalize (wr.alloc (.cells #[.int .i64 (x - p), .int .i64 o] 77)) = Z at *
          generalize wr.heap.size = ob at *
          obtain ⟨fa, fc, fb, fd, hr6, hl6, ht6, hna, hnb⟩ := HGZ.out.ls
          have L1 := Lib.hid (show ∀ W', Kept Z.heap.size Z W' → (loadVar 74 ⟨r, 1, none⟩).run Try.prog W' = .ok (.slice fa Lc.length fc) W' from
            fun W' hW => run_loadVar_cell (fun _ => by kernel_rfl) ((hr6.later hW.below).cell 1 (by decide)))
          have L2 := Lib.hid (show ∀ W', Kept Z.heap.size Z W' → (loadVar 77 ⟨ob, 0, none⟩).run Try.prog W' = .ok (.agg #[.int .i64 (x - (p : Int)), .int .i64 o]) W' from
            fun W' hW => load_block ((HOB.out.later hW.below).cell 0 (by decide)) ((HOB.out.later hW.below).cell 1 (by decide)))
          have HL6 := Lib.hid hl6
          clear hr6 hl6 ht6 hna hnb
          refine wp_region_lex1 (Kept Z.heap.size Z) [(0, false), (1, false), (2, false), (3, false), (4, false), (5, true), (6, false), (7, false), (8, false), (9, false), (10, false)]
            (by kernel_rfl) (by kernel_rfl) rfl (by kernel_rfl) (Below.refl _ Z).drew ?_
          intro W0 hW0 hK0
          clear hW0
          refine lexH_yieldE rfl rfl ?_
          apply Exists.intro
          refine ⟨fun W hW => ?_, ?_⟩
          focus (go_simp; exact rfl)
          simp only [List.getElem_toArray, List.getElem_cons_zero, Act.put, List.setIfInBounds_toArray, List.set_cons_zero, List.set_cons_succ]
          refine lexH_yieldE rfl rfl ?_
          apply Exists.intro
          refine ⟨fun W hW => ?_, ?_⟩
          focus (go_simp; exact rfl)
          simp only [List.getElem_toArray, List.getElem_cons_succ, List.getElem_cons_zero, Act.put, List.setIfInBounds_toArray, List.set_cons_zero, List.set_cons_succ]
          refine lexH_yieldE rfl rfl ?_
          apply Exists.intro
          refine ⟨fun W hW => ?_, ?_⟩
          focus (go_simp; exact rfl)
          simp only [List.getElem_toArray, List.getElem_cons_succ, List.getElem_cons_zero, Act.put, List.setIfInBounds_toArray, List.set_cons_zero, List.set_cons_succ]
          refine lexH_load rfl rfl _ _ rfl rfl L1.out ?_
          simp only [List.getElem_toArray, List.getElem_cons_succ, List.getElem_cons_zero, Act.put, List.setIfInBounds_toArray, List.set_cons_zero, List.set_cons_succ]
          refine lexH_load rfl rfl _ _ rfl rfl L2.out ?_
          simp only [List.getElem_toArray, List.getElem_cons_succ, List.getElem_cons_zero, Act.put, List.setIfInBounds_toArray, List.set_cons_zero, List.set_cons_succ]
          refine lexH_call 58 #[.slice fa Lc.length fc, .agg #[.int .i64 (x - (p : Int)), .int .i64 o]] rfl rfl ?_ ?_
          focus (go_simp; done)
          refine (drop_any (HL6.out.later hK0.below) (by omega) fc ((x - (p : Int)), (o : Int))).mono ?_
          rintro e W9 ⟨a9, c9, rfl, hs9, hb9⟩
          generalize hcb : Lc.contains ((x - (p : Int)), (o : Int)) = cb
          have HCB := Lib.hid hcb
          have HK9 := Lib.hid (show Kept Z.heap.size Z W9 from hK0.below.trans (hb9.mono hK0.below.size))
          have HS9 := Lib.hid (hs9.base hK0.below.size)
          have HD9 := Lib.hid (Nat.le_trans (dropL_len Lc ((x - (p : Int)), (o : Int))) hLc)
          refine ⟨_, rfl, HK9.out, ?_⟩
          clear hs9 hb9 hK0 hcb
          simp only [List.getElem_toArray, List.getElem_cons_succ, List.getElem_cons_zero, Act.put, List.setIfInBounds_toArray, List.set_cons_zero, List.set_cons_succ]
          refine lexH_yieldE rfl rfl ?_
          apply Exists.intro
          refine ⟨fun W hW => ?_, ?_⟩
          focus (go_simp; exact rfl)
          simp only [List.getElem_toArray, List.getElem_cons_succ, List.getElem_cons_zero, Act.put, List.setIfInBounds_toArray, List.set_cons_zero, List.set_cons_succ]
          refine lexH_yieldE rfl rfl ?_
          apply Exists.intro
          refine ⟨fun W hW => ?_, ?_⟩
          focus (go_simp; exact rfl)
          simp only [List.getElem_toArray, List.getElem_cons_succ, List.getElem_cons_zero, Act.put, List.setIfInBounds_toArray, List.set_cons_zero, List.set_cons_succ]
          refine lexH_yieldE rfl rfl ?_
          apply Exists.intro
          refine ⟨fun W hW => ?_, ?_⟩
          focus (go_simp; exact rfl)
          simp only [List.getElem_toArray, List.getElem_cons_succ, List.getElem_cons_zero, Act.put, List.setIfInBounds_toArray, List.set_cons_zero, List.set_cons_succ]
          refine lexH_yieldE rfl rfl ?_
          apply Exists.intro
          refine ⟨fun W hW => ?_, ?_⟩
          focus (go_simp; exact rfl)
          simp only [List.getElem_toArray, List.getElem_cons_succ, List.getElem_cons_zero, Act.put, List.setIfInBounds_toArray, List.set_cons_zero, List.set_cons_succ]
          refine lexH_yieldE rfl rfl ?_
          apply Exists.intro
          refine ⟨fun W hW => ?_, ?_⟩
          focus (go_simp; exact rfl)
          simp only [List.getElem_toArray, List.getElem_cons_succ, List.getElem_cons_zero, Act.put, List.setIfInBounds_toArray, List.set_cons_zero, List.set_cons_succ]
          refine lexH_nil ?_
          have HG9 := Lib.hid (HGZ.out.later HK9.out.below)
          clear HK9 L1 L2 HL6 HGZ
          cases cb with
          | true =>
            have hge := HG9.out.free (c := c9) (HS9.out.base HXZ.out)
            obtain ⟨_, _, _, _, hr9, _⟩ := HG9.out.ls
            have c1 : W9.cell? ⟨r, 1, none⟩ = _ := hr9.cell 1 (by decide)
            have f1 : W9.frozen? ⟨r, 1, none⟩ = false := hr9.frozen 1
            have HTH := Lib.hid (hge.box.there 0 2 (by decide))
            have hset := Only.setCells (S := Eq xb) (b := xb) rfl [.int .i64 (x - (p : Int)), .int .i64 ((o : Int) + 1)] 0 (W9.setCell ⟨r, 1, none⟩ (.slice a9 (dropL Lc ((x - (p : Int)), (o : Int))).length c9))
            have HGN := Lib.hid (hge.put (x' := (x - (p : Int))) (y' := ((o + 1 : Nat) : Int)) ((hge.box.setCells [.int .i64 (x - (p : Int)), .int .i64 ((o : Int) + 1)] 0 _ _).ext (fun i hi => by
              rcases (show i = 0 ∨ i = 1 by omega) with rfl | rfl <;> simp [blkV])) hset)
            have k0 : (W9.setCell ⟨r, 1, none⟩ (.slice a9 (dropL Lc ((x - (p : Int)), (o : Int))).length c9)).cell? ⟨xb, 1, none⟩ = some (.int .i64 o) := hge.box.cell 1 (by decide)
            have HTN := Lib.hid (show giveL (10 - (o + 1)) (dropL Lc ((x - (p : Int)), (o : Int))) (x - (p : Int)) (o + 1) = tgt by
              rw [← htg, show 10 - o = (10 - (o + 1)) + 1 by omega]
              show _ = if _ then _ else _
              rw [HBA.out, if_pos HCB.out, HLA.out])
            have HLO := Lib.hid (low_in (o := o) hx0)
            rw [HLA.out] at HLO
            have HC1 := Lib.hid c1'
            generalize hln : (dropL Lc ((x - (p : Int)), (o : Int))).length = ln at *
            clear hge hset hr9 HG9 HS9 htg
            go_wp2_with (refine wpList_store_mid rfl 77 _ _ rfl xb 0 #[.int .i64 (x - (p : Int)), .int .i64 ((o : Int) + 1)] rfl rfl HTH.out sizeBlock (two_all _ _) ?_)
            try simp only [Act.put]
            go_roundw
            case rel => exact ⟨_, _, _, _, _, dropL Lc ((x - (p : Int)), (o : Int)), (x - (p : Int)), o + 1, rfl, rfl, rfl, rfl, rfl, HGN.out, HTN.out, by omega, by rw [hln]; exact HD9.out, HLO.out.1, by have := HLO.out.2; omega⟩
            case measure =>
              rw [HC1.out, HGN.out.box.cell 1 (by decide)]
              show (10 - ((o + 1 : Nat) : Int)).toNat < (10 - (o : Int)).toNat
              omega
          | false =>
            have HTN := Lib.hid (show putL Lc (x, (o : Int)) = tgt by
              rw [← htg, show 10 - o = (10 - (o + 1)) + 1 by omega]
              show _ = if _ then _ else _
              rw [HBA.out, if_neg (by rw [HCB.out]; decide)])
            have k0 : W9.cell? ⟨xb, 0, none⟩ = some (.int .i64 x) := HG9.out.box.cell 0 (by decide)
            have k1 : W9.cell? ⟨xb, 1, none⟩ = some (.int .i64 o) := HG9.out.box.cell 1 (by decide)
            clear HS9 htg
            go_wp2_with (fail)
            clear k0 k1
            obtain ⟨ga, gc, gb, gd, hR9⟩ := HG9.out.ref
            refine (put_any hR9 (by omega) (x, (o : Int))).mono ?_
            rintro e W10 ⟨rfl, pa, pc, hR10, _, ho10'⟩
            have HN := Lib.hid (show BGive w r n L T at1 (od : Int) (.returned (.int .i64 0)) W10 from by
              unfold BGive
              rw [HGS.out, ← HTN.out]
              refine ⟨rfl, _, _, hR10, ?_⟩
              have hall := HG9.out.only.trans (ho10'.mono (fun q hq => .inl hq.symm))
              exact ⟨hall.os, hall.tape, hall.output, hall.size, fun q hq hs => hall.block q hq (fun e => e.elim (fun e => hs e.symm) (fun e => by omega))⟩)
            clear hR9 hR10 ho10' HG9 HTN
            go_wp2_with (fail)
            go_ret
            exact HN.out
        · have HBA := Lib.hid (show budA x o = x + (p : Int) by unfold budA; rw [HP.out, if_neg hodd])
          have HLA := Lib.hid (show lowA x o = x by unfold lowA; rw [HP.out, if_neg hodd])
          have eh : ((x / (p : Int)).tmod 2 == 1) = false := by rw [Int.tmod_eq_emod_of_nonneg (Int.ediv_nonneg hx0 (by omega))]; simpa using hodd
          have HOB := Lib.hid HH.out
          have HGZ := Lib.hid (HG.out.later hbx)
          have HXZ := Lib.hid HX1.out
          clear hbl hbx hodd HG
          go_wp2_with (first | refine wpList_shl1 rfl _ _ _ _ rfl .u64 o p ho10 HP.out rfl rfl ?_ | refine wpList_store_run rfl 77 _ _ rfl wr.heap.size _ _ rfl rfl HST.out ?_)
          clear e0 e1 c0 c1 HST HH
          have c1' := HC1'.out
          generalize (wr.alloc (.cells #[.int .i64 (x + p), .int .i64 o] 77)) = Z at *
          generalize wr.heap.size = ob at *
          obtain ⟨fa, fc, fb, fd, hr6, hl6, ht6, hna, hnb⟩ := HGZ.out.ls
          have L1 := Lib.hid (show ∀ W', Kept Z.heap.size Z W' → (loadVar 74 ⟨r, 1, none⟩).run Try.prog W' = .ok (.slice fa Lc.length fc) W' from
            fun W' hW => run_loadVar_cell (fun _ => by kernel_rfl) ((hr6.later hW.below).cell 1 (by decide)))
          have L2 := Lib.hid (show ∀ W', Kept Z.heap.size Z W' → (loadVar 77 ⟨ob, 0, none⟩).run Try.prog W' = .ok (.agg #[.int .i64 (x + (p : Int)), .int .i64 o]) W' from
            fun W' hW => load_block ((HOB.out.later hW.below).cell 0 (by decide)) ((HOB.out.later hW.below).cell 1 (by decide)))
          have HL6 := Lib.hid hl6
          clear hr6 hl6 ht6 hna hnb
          refine wp_region_lex1 (Kept Z.heap.size Z) [(0, false), (1, false), (2, false), (3, false), (4, false), (5, true), (6, false), (7, false), (8, false), (9, false), (10, false)]
            (by kernel_rfl) (by kernel_rfl) rfl (by kernel_rfl) (Below.refl _ Z).drew ?_
          intro W0 hW0 hK0
          clear hW0
          refine lexH_yieldE rfl rfl ?_
          apply Exists.intro
          refine ⟨fun W hW => ?_, ?_⟩
          focus (go_simp; exact rfl)
          simp only [List.getElem_toArray, List.getElem_cons_zero, Act.put, List.setIfInBounds_toArray, List.set_cons_zero, List.set_cons_succ]
          refine lexH_yieldE rfl rfl ?_
          apply Exists.intro
          refine ⟨fun W hW => ?_, ?_⟩
          focus (go_simp; exact rfl)
          simp only [List.getElem_toArray, List.getElem_cons_succ, List.getElem_cons_zero, Act.put, List.setIfInBounds_toArray, List.set_cons_zero, List.set_cons_succ]
          refine lexH_yieldE rfl rfl ?_
          apply Exists.intro
          refine ⟨fun W hW => ?_, ?_⟩
          focus (go_simp; exact rfl)
          simp only [List.getElem_toArray, List.getElem_cons_succ, List.getElem_cons_zero, Act.put, List.setIfInBounds_toArray, List.set_cons_zero, List.set_cons_succ]
          refine lexH_load rfl rfl _ _ rfl rfl L1.out ?_
          simp only [List.getElem_toArray, List.getElem_cons_succ, List.getElem_cons_zero, Act.put, List.setIfInBounds_toArray, List.set_cons_zero, List.set_cons_succ]
          refine lexH_load rfl rfl _ _ rfl rfl L2.out ?_
          simp only [List.getElem_toArray, List.getElem_cons_succ, List.getElem_cons_zero, Act.put, List.setIfInBounds_toArray, List.set_cons_zero, List.set_cons_succ]
          refine lexH_call 58 #[.slice fa Lc.length fc, .agg #[.int .i64 (x + (p : Int)), .int .i64 o]] rfl rfl ?_ ?_
          focus (go_simp; done)
          refine (drop_any (HL6.out.later hK0.below) (by omega) fc ((x + (p : Int)), (o : Int))).mono ?_
          rintro e W9 ⟨a9, c9, rfl, hs9, hb9⟩
          generalize hcb : Lc.contains ((x + (p : Int)), (o : Int)) = cb
          have HCB := Lib.hid hcb
          have HK9 := Lib.hid (show Kept Z.heap.size Z W9 from hK0.below.trans (hb9.mono hK0.below.size))
          have HS9 := Lib.hid (hs9.base hK0.below.size)
          have HD9 := Lib.hid (Nat.le_trans (dropL_len Lc ((x + (p : Int)), (o : Int))) hLc)
          refine ⟨_, rfl, HK9.out, ?_⟩
          clear hs9 hb9 hK0 hcb
          simp only [List.getElem_toArray, List.getElem_cons_succ, List.getElem_cons_zero, Act.put, List.setIfInBounds_toArray, List.set_cons_zero, List.set_cons_succ]
          refine lexH_yieldE rfl rfl ?_
          apply Exists.intro
          refine ⟨fun W hW => ?_, ?_⟩
          focus (go_simp; exact rfl)
          simp only [List.getElem_toArray, List.getElem_cons_succ, List.getElem_cons_zero, Act.put, List.setIfInBounds_toArray, List.set_cons_zero, List.set_cons_succ]
          refine lexH_yieldE rfl rfl ?_
          apply Exists.intro
          refine ⟨fun W hW => ?_, ?_⟩
          focus (go_simp; exact rfl)
          simp only [List.getElem_toArray, List.getElem_cons_succ, List.getElem_cons_zero, Act.put, List.setIfInBounds_toArray, List.set_cons_zero, List.set_cons_succ]
          refine lexH_yieldE rfl rfl ?_
          apply Exists.intro
          refine ⟨fun W hW => ?_, ?_⟩
          focus (go_simp; exact rfl)
          simp only [List.getElem_toArray, List.getElem_cons_succ, List.getElem_cons_zero, Act.put, List.setIfInBounds_toArray, List.set_cons_zero, List.set_cons_succ]
          refine lexH_yieldE rfl rfl ?_
          apply Exists.intro
          refine ⟨fun W hW => ?_, ?_⟩
          focus (go_simp; exact rfl)
          simp only [List.getElem_toArray, List.getElem_cons_succ, List.getElem_cons_zero, Act.put, List.setIfInBounds_toArray, List.set_cons_zero, List.set_cons_succ]
          refine lexH_yieldE rfl rfl ?_
          apply Exists.intro
          refine ⟨fun W hW => ?_, ?_⟩
          focus (go_simp; exact rfl)
          simp only [List.getElem_toArray, List.getElem_cons_succ, List.getElem_cons_zero, Act.put, List.setIfInBounds_toArray, List.set_cons_zero, List.set_cons_succ]
          refine lexH_nil ?_
          have HG9 := Lib.hid (HGZ.out.later HK9.out.below)
          clear HK9 L1 L2 HL6 HGZ
          cases cb with
          | true =>
            have hge := HG9.out.free (c := c9) (HS9.out.base HXZ.out)
            obtain ⟨_, _, _, _, hr9, _⟩ := HG9.out.ls
            have c1 : W9.cell? ⟨r, 1, none⟩ = _ := hr9.cell 1 (by decide)
            have f1 : W9.frozen? ⟨r, 1, none⟩ = false := hr9.frozen 1
            have HTH := Lib.hid (hge.box.there 0 2 (by decide))
            have hset := Only.setCells (S := Eq xb) (b := xb) rfl [.int .i64 x, .int .i64 ((o : Int) + 1)] 0 (W9.setCell ⟨r, 1, none⟩ (.slice a9 (dropL Lc ((x + (p : Int)), (o : Int))).length c9))
            have HGN := Lib.hid (hge.put (x' := x) (y' := ((o + 1 : Nat) : Int)) ((hge.box.setCells [.int .i64 x, .int .i64 ((o : Int) + 1)] 0 _ _).ext (fun i hi => by
              rcases (show i = 0 ∨ i = 1 by omega) with rfl | rfl <;> simp [blkV])) hset)
            have k0 : (W9.setCell ⟨r, 1, none⟩ (.slice a9 (dropL Lc ((x + (p : Int)), (o : Int))).length c9)).cell? ⟨xb, 1, none⟩ = some (.int .i64 o) := hge.box.cell 1 (by decide)
            have HTN := Lib.hid (show giveL (10 - (o + 1)) (dropL Lc ((x + (p : Int)), (o : Int))) x (o + 1) = tgt by
              rw [← htg, show 10 - o = (10 - (o + 1)) + 1 by omega]
              show _ = if _ then _ else _
              rw [HBA.out, if_pos HCB.out, HLA.out])
            have HLO := Lib.hid (low_in (o := o) hx0)
            rw [HLA.out] at HLO
            have HC1 := Lib.hid c1'
            generalize hln : (dropL Lc ((x + (p : Int)), (o : Int))).length = ln at *
            clear hge hset hr9 HG9 HS9 htg
            go_wp2_with (refine wpList_store_mid rfl 77 _ _ rfl xb 0 #[.int .i64 x, .int .i64 ((o : Int) + 1)] rfl rfl HTH.out sizeBlock (two_all _ _) ?_)
            try simp only [Act.put]
            go_roundw
            case rel => exact ⟨_, _, _, _, _, dropL Lc ((x + (p : Int)), (o : Int)), x, o + 1, rfl, rfl, rfl, rfl, rfl, HGN.out, HTN.out, by omega, by rw [hln]; exact HD9.out, HLO.out.1, by have := HLO.out.2; omega⟩
            case measure =>
              rw [HC1.out, HGN.out.box.cell 1 (by decide)]
              show (10 - ((o + 1 : Nat) : Int)).toNat < (10 - (o : Int)).toNat
              omega
          | false =>
            have HTN := Lib.hid (show putL Lc (x, (o : Int)) = tgt by
              rw [← htg, show 10 - o = (10 - (o + 1)) + 1 by omega]
              show _ = if _ then _ else _
              rw [HBA.out, if_neg (by rw [HCB.out]; decide)])
            have k0 : W9.cell? ⟨xb, 0, none⟩ = some (.int .i64 x) := HG9.out.box.cell 0 (by decide)
            have k1 : W9.cell? ⟨xb, 1, none⟩ = some (.int .i64 o) := HG9.out.box.cell 1 (by decide)
            clear HS9 htg
            go_wp2_with (fail)
            clear k0 k1
            obtain ⟨ga, gc, gb, gd, hR9⟩ := HG9.out.ref
            refine (put_any hR9 (by omega) (x, (o : Int))).mono ?_
            rintro e W10 ⟨rfl, pa, pc, hR10, _, ho10'⟩
            have HN := Lib.hid (show BGive w r n L T at1 (od : Int) (.returned (.int .i64 0)) W10 from by
              unfold BGive
              rw [HGS.out, ← HTN.out]
              refine ⟨rfl, _, _, hR10, ?_⟩
              have hall := HG9.out.only.trans (ho10'.mono (fun q hq => .inl hq.symm))
              exact ⟨hall.os, hall.tape, hall.output, hall.size, fun q hq hs => hall.block q hq (fun e => e.elim (fun e => hs e.symm) (fun e => by omega))⟩)
            clear hR9 hR10 ho10' HG9 HTN
            go_wp2_with (fail)
            go_ret
            exact HN.out
      · obtain rfl : o = 10 := by omega
        have HTN := Lib.hid (show putL Lc (x, (10 : Int)) = tgt from htg)
        have HG9 := Lib.hid HG.out
        clear HG htg
        go_wp2_with (fail)
        clear c0 c1
        obtain ⟨ga, gc, gb, gd, hR9⟩ := HG9.out.ref
        refine (put_any hR9 (by omega) (x, (10 : Int))).mono ?_
        rintro e W10 ⟨rfl, pa, pc, hR10, _, ho10'⟩
        have HN := Lib.hid (show BGive w r n L T at1 (od : Int) (.returned (.int .i64 0)) W10 from by
          unfold BGive
          rw [HGS.out, ← HTN.out]
          refine ⟨rfl, _, _, hR10, ?_⟩
          have hall := HG9.out.only.trans (ho10'.mono (fun q hq => .inl hq.symm))
          exact ⟨hall.os, hall.tape, hall.output, hall.size, fun q hq hs => hall.block q hq (fun e => e.elim (fun e => hs e.symm) (fun e => by omega))⟩)
        clear hR9 hR10 ho10' HG9 HTN
        go_wp2_with (fail)
        go_ret
        exact HN.out
end
end
/-! buddy's document: what its lists come to. Pure. -/
section
open Go.RowKit Go

theorem mem_dropL {L : List (Int × Int)} {x y : Int × Int} : y ∈ dropL L x ↔ y ∈ L ∧ y ≠ x := by
  unfold dropL
  rw [List.mem_filter]
  simp
/-- By rising numbers. -/
def Rising (L : List (Int × Int)) : Prop := L.Pairwise fun p q => p.1 < q.1
theorem Rising.dropL {L : List (Int × Int)} (h : Rising L) (x : Int × Int) : Rising (dropL L x) := List.Pairwise.filter _ h
theorem Rising.inj {L : List (Int × Int)} (h : Rising L) {p q : Int × Int} (hp : p ∈ L) (hq : q ∈ L) (e : p.1 = q.1) : p = q := by
  obtain ⟨i, hi, rfl⟩ := List.mem_iff_getElem.1 hp
  obtain ⟨j, hj, rfl⟩ := List.mem_iff_getElem.1 hq
  have hw := List.pairwise_iff_getElem.1 h
  by_cases h1 : i < j
  · have := hw i j hi hj h1; omega
  · by_cases h2 : j < i
    · have := hw j i hj hi h2; omega
    · obtain rfl : i = j := by omega
      rfl
theorem Rising.index {L : List (Int × Int)} (h : Rising L) {i j : Nat} (hi : i < L.length) (hj : j < L.length) : i ≤ j ↔ L[i].1 ≤ L[j].1 := by
  have hw := List.pairwise_iff_getElem.1 h
  constructor
  · intro hij
    by_cases e : i = j
    · subst e; exact Int.le_refl _
    · have := hw i j hi hj (by omega); omega
  · intro hle
    by_cases hji : j < i
    · have := hw j i hj hi hji; omega
    · omega

/-- x in its place. -/
def insL (x : Int × Int) : List (Int × Int) → List (Int × Int)
  | [] => [x]
  | y :: r => if x.1 < y.1 then x :: y :: r else y :: insL x r
theorem stepP_done (x : Int × Int) : ∀ (L A : List (Int × Int)), L.foldl (stepP x) (A, true) = (A ++ L, true)
  | [], A => by simp
  | y :: r, A => by
    rw [List.foldl_cons]
    have e : stepP x (A, true) y = (A ++ [y], true) := by unfold stepP; rw [if_neg (by simp)]
    rw [e, stepP_done x r, List.append_assoc]; rfl
theorem stepP_all (x : Int × Int) : ∀ (L A : List (Int × Int)), (if (L.foldl (stepP x) (A, false)).2 = true then (L.foldl (stepP x) (A, false)).1 else (L.foldl (stepP x) (A, false)).1 ++ [x]) = A ++ insL x L
  | [], A => by simp [insL]
  | y :: r, A => by
    rw [List.foldl_cons]
    by_cases h : x.1 < y.1
    · have e : stepP x (A, false) y = (A ++ [x] ++ [y], true) := by unfold stepP; rw [if_pos ⟨rfl, h⟩]
      rw [e, stepP_done, if_pos rfl]
      simp [insL, h]
    · have e : stepP x (A, false) y = (A ++ [y], false) := by unfold stepP; rw [if_neg (fun hh => h hh.2)]
      rw [e, stepP_all x r]
      simp [insL, h]
theorem putL_ins (L : List (Int × Int)) (x : Int × Int) : putL L x = insL x L := by
  unfold putL putS
  rw [List.take_length]
  simpa using stepP_all x L []
theorem mem_insL {x y : Int × Int} : ∀ L : List (Int × Int), y ∈ insL x L ↔ y ∈ L ∨ y = x
  | [] => by simp [insL]
  | z :: r => by
    unfold insL
    split
    · simp only [List.mem_cons]
      constructor
      · rintro (h | h | h)
        · exact .inr h
        · exact .inl (.inl h)
        · exact .inl (.inr h)
      · rintro ((h | h) | h)
        · exact .inr (.inl h)
        · exact .inr (.inr h)
        · exact .inl h
    · simp only [List.mem_cons, mem_insL r, or_assoc]
theorem mem_putL {L : List (Int × Int)} {x y : Int × Int} : y ∈ putL L x ↔ y ∈ L ∨ y = x := by rw [putL_ins, mem_insL]
theorem Rising.ins {x : Int × Int} : ∀ {L : List (Int × Int)}, Rising L → (∀ p ∈ L, p.1 ≠ x.1) → Rising (insL x L)
  | [], _, _ => List.pairwise_singleton _ _
  | y :: r, h, hx => by
    have h1 := List.pairwise_cons.1 h
    unfold insL
    split
    · rename_i hlt
      refine List.pairwise_cons.2 ⟨fun p hp => ?_, h⟩
      rcases List.mem_cons.1 hp with rfl | hp
      · exact hlt
      · have := h1.1 p hp; omega
    · rename_i hlt
      refine List.pairwise_cons.2 ⟨fun p hp => ?_, Rising.ins h1.2 (fun p hp => hx p (List.mem_cons_of_mem _ hp))⟩
      rcases (mem_insL r).1 hp with hp | rfl
      · exact h1.1 p hp
      · have := hx y List.mem_cons_self
        omega
theorem Rising.putL {L : List (Int × Int)} {x : Int × Int} (h : Rising L) (hx : ∀ p ∈ L, p.1 ≠ x.1) : Rising (putL L x) := by
  rw [putL_ins]; exact h.ins hx

/-- Which block is cut: of the least order that is great enough, and the first or the last of these. -/
theorem pick_spec (L : List (Int × Int)) (order : Int) (high : Bool) : ∀ k, (pickK L order high k = -1 ∧ ∀ i, i < k → (L.getD i (0, 0)).2 < order) ∨
    ∃ j : Nat, pickK L order high k = j ∧ j < k ∧ order ≤ (L.getD j (0, 0)).2 ∧ ∀ i, i < k → order ≤ (L.getD i (0, 0)).2 → (L.getD j (0, 0)).2 ≤ (L.getD i (0, 0)).2 ∧ ((L.getD i (0, 0)).2 = (L.getD j (0, 0)).2 → if high = true then i ≤ j else j ≤ i)
  | 0 => .inl ⟨rfl, fun i h => absurd h (Nat.not_lt_zero _)⟩
  | k + 1 => by
    have ih := pick_spec L order high k
    have hun : pickK L order high (k + 1) = if (L.getD k (0, 0)).2 < order then pickK L order high k
      else if pickK L order high k < 0 ∨ (L.getD k (0, 0)).2 < (L.getD (pickK L order high k).toNat (0, 0)).2 ∨ (high = true ∧ (L.getD k (0, 0)).2 = (L.getD (pickK L order high k).toNat (0, 0)).2) then k else pickK L order high k := rfl
    rw [hun]
    clear hun
    generalize pickK L order high k = q at *
    by_cases h1 : (L.getD k (0, 0)).2 < order
    · rw [if_pos h1]
      rcases ih with ⟨h, h2⟩ | ⟨j, h, h2, h3, h4⟩
      · refine .inl ⟨h, fun i hi => ?_⟩
        by_cases e : i = k
        · subst e; exact h1
        · exact h2 i (by omega)
      · refine .inr ⟨j, h, by omega, h3, fun i hi hio => ?_⟩
        by_cases e : i = k
        · subst e; omega
        · exact h4 i (by omega) hio
    · rw [if_neg h1]
      rcases ih with ⟨h, h2⟩ | ⟨j, h, h2, h3, h4⟩
      · subst h
        rw [if_pos (.inl (by decide))]
        refine .inr ⟨k, rfl, by omega, by omega, fun i hi hio => ?_⟩
        by_cases e : i = k
        · subst e
          exact ⟨Int.le_refl _, fun _ => by split <;> omega⟩
        · have := h2 i (by omega); omega
      · subst h
        rw [Int.toNat_natCast]
        by_cases hc : (L.getD k (0, 0)).2 < (L.getD j (0, 0)).2 ∨ (high = true ∧ (L.getD k (0, 0)).2 = (L.getD j (0, 0)).2)
        · rw [if_pos (.inr hc)]
          refine .inr ⟨k, rfl, by omega, by omega, fun i hi hio => ?_⟩
          by_cases e : i = k
          · subst e
            exact ⟨Int.le_refl _, fun _ => by split <;> omega⟩
          · obtain ⟨m1, m2⟩ := h4 i (by omega) hio
            rcases hc with hc | ⟨hh, hc⟩
            · exact ⟨by omega, fun e2 => by omega⟩
            · subst hh
              exact ⟨by omega, fun _ => by rw [if_pos rfl]; omega⟩
        · rw [if_neg (fun h => h.elim (fun h0 => by omega) hc)]
          refine .inr ⟨j, rfl, by omega, h3, fun i hi hio => ?_⟩
          by_cases e : i = k
          · subst e
            refine ⟨by omega, fun e2 => ?_⟩
            cases high with
            | true => exact absurd (.inr ⟨rfl, e2⟩) hc
            | false => rw [if_neg (by decide)]; omega
          · exact h4 i (by omega) hio
end
end Go.Proofs.Ytdpnmjlapgldgaa
