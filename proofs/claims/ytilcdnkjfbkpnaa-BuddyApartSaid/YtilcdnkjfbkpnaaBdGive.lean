/-
  buddy's document: Give.
-/
import Derived.Test.YtilcdnkjfbkpnaaBdTake
namespace Go.Proofs.Ytilcdnkjfbkpnaa
open Go.RowKit Go

/-- The buddy of a block of order o at x, and where both begin. -/
def budA (x : Int) (o : Nat) : Int := if x / ((2 ^ o : Nat) : Int) % 2 = 1 then x - ((2 ^ o : Nat) : Int) else x + ((2 ^ o : Nat) : Int)
def lowA (x : Int) (o : Nat) : Int := if x / ((2 ^ o : Nat) : Int) % 2 = 1 then x - ((2 ^ o : Nat) : Int) else x
/-- A block comes back: d orders may be left above it. -/
def giveL : Nat → List (Int × Int) → Int → Nat → List (Int × Int)
  | 0, L, x, o => putL L (x, (o : Int))
  | d + 1, L, x, o => if L.contains (budA x o, (o : Int)) = true then giveL d (dropL L (budA x o, (o : Int))) (lowA x o) (o + 1) else putL L (x, (o : Int))
theorem low_in {x : Int} {o : Nat} (h : 0 ≤ x) : 0 ≤ lowA x o ∧ lowA x o ≤ x := by
  unfold lowA
  have hp := Nat.one_le_two_pow (n := o)
  generalize 2 ^ o = p at *
  split
  · rename_i hc
    have hd := Int.emod_add_mul_ediv x p
    have h0 := Int.emod_nonneg x (show (p : Int) ≠ 0 by omega)
    have h1 : 1 ≤ x / (p : Int) := by
      have := Int.ediv_nonneg h (show (0 : Int) ≤ p by omega)
      omega
    have h2 : (p : Int) * 1 ≤ (p : Int) * (x / (p : Int)) := Int.mul_le_mul_of_nonneg_left h1 (by omega)
    omega
  · omega

/-- The node while a block comes back: the block at xb, which none of the lists lies in. -/
structure GvAt (w : World) (r n xb : Nat) (L T : List (Int × Int)) (x y : Int) (wr : World) : Prop where
  ls : ∃ a c b d, RowAt wr r 3 (brV n (.slice a L.length c) (.slice b T.length d)) ∧ RecsAt wr (r + 1) a encB 2 L ∧ RecsAt wr (r + 1) b encB 2 T ∧ (∀ g, a = some ⟨g, 0, none⟩ → 0 < L.length → g ≠ xb) ∧ ∀ g, b = some ⟨g, 0, none⟩ → 0 < T.length → g ≠ xb
  box : RowAt wr xb 2 (blkV x y)
  only : Only (fun k => k = r ∨ w.heap.size ≤ k) w wr
  xb1 : w.heap.size ≤ xb
  r1 : r < w.heap.size
section
variable {w wr w' : World} {r n xb : Nat} {L T : List (Int × Int)} {x y : Int}
theorem RecsAt.aside {α : Type} {enc : α → List Value} {s : Nat} {B : Nat} {S : Nat → Prop} {a : Option Addr} {M : List α} (h : RecsAt wr B a enc s M) (ho : Only S wr w') (hs : ∀ g, a = some ⟨g, 0, none⟩ → 0 < M.length → ¬ S g) : RecsAt w' B a enc s M := fun hp => by
  obtain ⟨g, e, hg, hlt, A, t, hA, hi⟩ := h hp
  exact ⟨g, e, hg, Nat.lt_of_lt_of_le hlt ho.size, A, t, by rw [ho.block g hlt (hs g e hp)]; exact hA, hi⟩
theorem GvAt.ref (K : GvAt w r n xb L T x y wr) : ∃ a c b d, BRef wr r n L T (.slice a L.length c) (.slice b T.length d) := by
  obtain ⟨a, c, b, d, hr, h1, h2, _⟩ := K.ls
  exact ⟨a, c, b, d, hr, ⟨a, c, rfl, h1⟩, ⟨b, d, rfl, h2⟩⟩
theorem GvAt.later (K : GvAt w r n xb L T x y wr) (h : Below wr.heap.size wr w') : GvAt w r n xb L T x y w' := by
  obtain ⟨a, c, b, d, hr, h1, h2, h3, h4⟩ := K.ls
  exact ⟨⟨a, c, b, d, hr.later h, h1.later h, h2.later h, h3, h4⟩, K.box.later h, K.only.trans (Only.of_below h), K.xb1, K.r1⟩
/-- Its block turns. -/
theorem GvAt.put (K : GvAt w r n xb L T x y wr) {x' y' : Int} (hb : RowAt w' xb 2 (blkV x' y')) (h : Only (Eq xb) wr w') : GvAt w r n xb L T x' y' w' := by
  obtain ⟨a, c, b, d, hr, h1, h2, h3, h4⟩ := K.ls
  have e1 := K.xb1
  have e2 := K.r1
  exact ⟨⟨a, c, b, d, hr.only h (by omega), h1.aside h (fun g e hp hx => h3 g e hp hx.symm), h2.aside h (fun g e hp hx => h4 g e hp hx.symm), h3, h4⟩, hb, K.only.trans ⟨h.os, h.tape, h.output, h.size, fun k hk hs => h.block k hk (fun e => hs (.inr (by omega)))⟩, K.xb1, K.r1⟩
/-- The lists laid anew. -/
theorem GvAt.free (K : GvAt w r n xb L T x y wr) {L' : List (Int × Int)} {a : Option Addr} {c : Nat} (h : RecsAt wr (xb + 1) a encB 2 L') : GvAt w r n xb L' T x y (wr.setCell ⟨r, 1, none⟩ (.slice a L'.length c)) := by
  obtain ⟨_, _, b, d, hr, _, h2, _, h4⟩ := K.ls
  have e1 := K.xb1
  have e2 := K.r1
  have ho := Only.setCell (S := Eq r) wr ⟨r, 1, none⟩ rfl (.slice a L'.length c)
  refine ⟨⟨a, c, b, d, (hr.setCell 1 _).ext (fun i hi => ?_), (h.above ho (fun g hg e => by omega)).base (by omega), h2.above ho (fun g hg e => by omega), fun g e hp => ?_, h4⟩, K.box.only ho (by omega), K.only.trans (ho.mono (fun k hk => .inl hk.symm)), K.xb1, K.r1⟩
  · unfold updV brV
    rcases (show i = 0 ∨ i = 1 ∨ i = 2 by omega) with rfl | rfl | rfl <;> simp
  · obtain ⟨g', e', hg, _⟩ := h hp
    rw [e] at e'
    cases e'
    omega
end

def giveS (L T : List (Int × Int)) (at1 order : Int) : Int × List (Int × Int) × List (Int × Int) :=
  if T.contains (at1, order) = true then (0, giveL (10 - order.toNat) L at1 order.toNat, dropL T (at1, order)) else (2, L, T)
section
variable {w w' : World} {r n : Nat} {L T : List (Int × Int)} {v u : Value}
def BGive (w : World) (r n : Nat) (L T : List (Int × Int)) (at1 order : Int) (e : Ending) (w' : World) : Prop :=
  e = .returned (.int .i64 (giveS L T at1 order).1) ∧ ∃ v' u', BRef w' r n (giveS L T at1 order).2.1 (giveS L T at1 order).2.2 v' u' ∧ Only (Eq r) w w'
set_option maxRecDepth 100000 in
set_option maxHeartbeats 4000000 in
theorem give_any (R : BRef w r n L T v u) (hl : L.length ≤ 800) (hT : T.length ≤ 900) (hg : GoodL T) (at1 order : Int) :
    Calls Try.prog 16 #[.pointer (some ⟨r, 0, none⟩), .int .i64 at1, .int .i64 order] w (BGive w r n L T at1 order) := by
  have HR := Lib.hid R
  obtain ⟨a, c, hv, hS⟩ := R.fr
  obtain ⟨b, d, hu, hU⟩ := R.tk
  have hrr := R.lt
  have HV := Lib.hid hv
  have HU := Lib.hid hu
  have hb2 : Below w.heap.size w (w.alloc (.cells #[.int .i64 at1, .int .i64 order] 42)) := (Below.refl _ _).alloc (Nat.le_refl _) _
  have HB := Lib.hid hb2
  have HX := Lib.hid (block_row w at1 order)
  have HST := Lib.hid (store_block w #[.int .i64 0, .int .i64 0] rfl at1 order)
  have HRW := Lib.hid (R.later hb2)
  have HSW := Lib.hid (hS.later hb2)
  have HUW := Lib.hid (hU.later hb2)
  have hxw := (block_row w at1 order).lt
  have HOS := Lib.hid (fun g (hp : 0 < L.length) (e : a = some ⟨g, 0, none⟩) => show g < w.heap.size from by
    obtain ⟨g', e', _, hlt, _⟩ := hS hp
    rw [e] at e'
    cases e'
    exact hlt)
  clear R hS hU hv hu hb2
  go_enter Try.func16, Try.ntmps16
  go_wp2_with (refine wpList_store_run rfl 42 _ _ rfl w.heap.size _ _ rfl rfl HST.out ?_)
  clear HST
  generalize hxb : w.heap.size = xb at *
  generalize w.alloc (.cells #[.int .i64 at1, .int .i64 order] 42) = W at *
  have L1 := Lib.hid (show ∀ W', Kept W.heap.size W W' → (loadVar 38 ⟨r, 2, none⟩).run Try.prog W' = .ok (.slice b T.length d) W' from
    fun W' hW => run_loadVar_cell (fun _ => by kernel_rfl) (by rw [(HRW.out.later hW.below).c2, HU.out]))
  have L2 := Lib.hid (show ∀ W', Kept W.heap.size W W' → (loadVar 42 ⟨xb, 0, none⟩).run Try.prog W' = .ok (.agg #[.int .i64 at1, .int .i64 order]) W' from
    fun W' hW => load_block ((HX.out.later hW.below).cell 0 (by decide)) ((HX.out.later hW.below).cell 1 (by decide)))
  refine wp_region_lex1 (Kept W.heap.size W) [(0, false), (1, false), (2, false), (3, false), (4, false), (5, true), (6, false), (7, false), (8, false), (9, false), (10, false)]
    (by kernel_rfl) (by kernel_rfl) rfl (by kernel_rfl) (Below.refl _ W).drew ?_
  intro W0 hW0 hK0
  clear hW0
  refine lexH_yieldE rfl rfl ?_
  apply Exists.intro
  refine ⟨fun W hW => ?_, ?_⟩
  focus (go_simp; exact rfl)
  simp only [List.getElem_toArray, List.getElem_cons_zero, Act.put, List.setIfInBounds_toArray, List.set_cons_zero, List.set_cons_succ]
  refine lexH_yieldE rfl rfl ?_
  apply Exists.intro
  refine ⟨fun W hW => ?_, ?_⟩
  focus (go_simp; exact rfl)
  simp only [List.getElem_toArray, List.getElem_cons_succ, List.getElem_cons_zero, Act.put, List.setIfInBounds_toArray, List.set_cons_zero, List.set_cons_succ]
  refine lexH_yieldE rfl rfl ?_
  apply Exists.intro
  refine ⟨fun W hW => ?_, ?_⟩
  focus (go_simp; exact rfl)
  simp only [List.getElem_toArray, List.getElem_cons_succ, List.getElem_cons_zero, Act.put, List.setIfInBounds_toArray, List.set_cons_zero, List.set_cons_succ]
  refine lexH_load rfl rfl _ _ rfl rfl L1.out ?_
  simp only [List.getElem_toArray, List.getElem_cons_succ, List.getElem_cons_zero, Act.put, List.setIfInBounds_toArray, List.set_cons_zero, List.set_cons_succ]
  refine lexH_load rfl rfl _ _ rfl rfl L2.out ?_
  simp only [List.getElem_toArray, List.getElem_cons_succ, List.getElem_cons_zero, Act.put, List.setIfInBounds_toArray, List.set_cons_zero, List.set_cons_succ]
  refine lexH_call 31 #[.slice b T.length d, .agg #[.int .i64 at1, .int .i64 order]] rfl rfl ?_ ?_
  focus (go_simp; done)
  refine (drop_any (HUW.out.later hK0.below) hT d (at1, order)).mono ?_
  rintro e W3 ⟨b3, d3, rfl, hs3, hb3⟩
  generalize hct : T.contains (at1, order) = cb
  have HCT := Lib.hid hct
  clear hct
  have HK3 := Lib.hid (show Kept W.heap.size W W3 from hK0.below.trans (hb3.mono hK0.below.size))
  have HS3 := Lib.hid (hs3.base hK0.below.size)
  refine ⟨_, rfl, HK3.out, ?_⟩
  clear hs3 hb3 hK0
  simp only [List.getElem_toArray, List.getElem_cons_succ, List.getElem_cons_zero, Act.put, List.setIfInBounds_toArray, List.set_cons_zero, List.set_cons_succ]
  refine lexH_yieldE rfl rfl ?_
  apply Exists.intro
  refine ⟨fun W hW => ?_, ?_⟩
  focus (go_simp; exact rfl)
  simp only [List.getElem_toArray, List.getElem_cons_succ, List.getElem_cons_zero, Act.put, List.setIfInBounds_toArray, List.set_cons_zero, List.set_cons_succ]
  refine lexH_yieldE rfl rfl ?_
  apply Exists.intro
  refine ⟨fun W hW => ?_, ?_⟩
  focus (go_simp; exact rfl)
  simp only [List.getElem_toArray, List.getElem_cons_succ, List.getElem_cons_zero, Act.put, List.setIfInBounds_toArray, List.set_cons_zero, List.set_cons_succ]
  refine lexH_yieldE rfl rfl ?_
  apply Exists.intro
  refine ⟨fun W hW => ?_, ?_⟩
  focus (go_simp; exact rfl)
  simp only [List.getElem_toArray, List.getElem_cons_succ, List.getElem_cons_zero, Act.put, List.setIfInBounds_toArray, List.set_cons_zero, List.set_cons_succ]
  refine lexH_yieldE rfl rfl ?_
  apply Exists.intro
  refine ⟨fun W hW => ?_, ?_⟩
  focus (go_simp; exact rfl)
  simp only [List.getElem_toArray, List.getElem_cons_succ, List.getElem_cons_zero, Act.put, List.setIfInBounds_toArray, List.set_cons_zero, List.set_cons_succ]
  refine lexH_yieldE rfl rfl ?_
  apply Exists.intro
  refine ⟨fun W hW => ?_, ?_⟩
  focus (go_simp; exact rfl)
  simp only [List.getElem_toArray, List.getElem_cons_succ, List.getElem_cons_zero, Act.put, List.setIfInBounds_toArray, List.set_cons_zero, List.set_cons_succ]
  refine lexH_nil ?_
  cases cb with
  | false =>
    have HN := Lib.hid (show BGive w r n L T at1 order (.returned (.int .i64 2)) W3 from by
      unfold BGive giveS
      rw [if_neg (by rw [HCT.out]; decide)]
      exact ⟨rfl, v, u, HRW.out.later HK3.out.below, Only.of_below (by rw [hxb]; exact HB.out.trans (HK3.out.below.mono (by rw [← hxb]; exact HB.out.size)))⟩)
    clear HK3 HS3 HRW HX L1 L2
    go_wp2_with (fail)
    go_ret
    exact HN.out
  | true =>
    have hgt := hg (at1, order) (List.contains_iff_mem.1 HCT.out)
    obtain ⟨g1, g2, g3, g4⟩ := hgt
    dsimp only at g1 g2 g3 g4
    obtain ⟨od, rfl⟩ := Int.eq_ofNat_of_zero_le g3
    have HGS := Lib.hid (show giveS L T at1 (od : Int) = (0, giveL (10 - od) L at1 od, dropL T (at1, (od : Int))) from if_pos HCT.out)
    have c2 : W3.cell? ⟨r, 2, none⟩ = some u := (HRW.out.later HK3.out.below).c2
    have f2 : W3.frozen? ⟨r, 2, none⟩ = false := (HRW.out.later HK3.out.below).row.frozen 2
    have hst := Only.setCell (S := Eq r) W3 ⟨r, 2, none⟩ rfl (.slice b3 (dropL T (at1, (od : Int))).length d3)
    have hbw : Below w.heap.size w W3 := by rw [hxb]; exact HB.out.trans (HK3.out.below.mono (by rw [← hxb]; exact HB.out.size))
    have HGV := Lib.hid (show GvAt w r n xb L (dropL T (at1, (od : Int))) at1 (od : Int) (W3.setCell ⟨r, 2, none⟩ (.slice b3 (dropL T (at1, (od : Int))).length d3)) from
      ⟨⟨a, c, b3, d3, ((HRW.out.later HK3.out.below).row.setCell 2 _).ext (fun i hi => by
          unfold updV brV
          rw [HV.out]
          rcases (show i = 0 ∨ i = 1 ∨ i = 2 by omega) with rfl | rfl | rfl <;> simp),
        (HSW.out.later HK3.out.below).above hst (fun q hq e => by omega), ((HS3.out.above hst (fun q hq e => by omega)).base (by omega)),
        fun q e hp => by have := HOS.out q hp e; omega, fun q e hp => by
          obtain ⟨q', e', hq, _⟩ := HS3.out hp
          rw [e] at e'
          cases e'
          omega⟩,
       (HX.out.later HK3.out.below).only hst (by omega), (Only.of_below hbw).trans (hst.mono (fun q hq => .inl hq.symm)), by omega, by omega⟩)
    have HXB := Lib.hid (show w.heap.size ≤ xb by omega)
    have hTL := dropL_len T (at1, (od : Int))
    clear hst hbw HK3 HS3 HRW HX L1 L2 HSW HUW HB HOS HR HV HU
    generalize hW5 : W3.setCell ⟨r, 2, none⟩ (.slice b3 (dropL T (at1, (od : Int))).length d3) = W5 at HGV
    go_wp2_with (fail)
    clear hW5 c2 f2
    generalize dropL T (at1, (od : Int)) = T' at *
    generalize htg : giveL (10 - od) L at1 od = tgt at HGS
    have HG4 := Lib.hid g4
    have hx4 : at1 ≤ 4000 := by have := Int.natCast_nonneg (2 ^ (od : Int).toNat); omega
    clear g4
    go_loopw [10, 11, 12, 13, 14] (fun s1 s2 s3 s4 s5 wr => ∃ (q1 q2 q3 q4 q5 : Value) (Lc : List (Int × Int)) (x : Int) (o : Nat), s1 = q1 ∧ s2 = q2 ∧ s3 = q3 ∧ s4 = q4 ∧ s5 = q5 ∧ GvAt w r n xb Lc T' x (o : Int) wr ∧ giveL (10 - o) Lc x o = tgt ∧ o ≤ 10 ∧ Lc.length ≤ 800 ∧ 0 ≤ x ∧ x ≤ 4000)
      (fun _ _ _ _ _ wr => (10 - intOf ((wr.cell? ⟨xb, 1, none⟩).getD undef)).toNat)
    case atStart => exact ⟨_, _, _, _, _, L, at1, od, rfl, rfl, rfl, rfl, rfl, HGV.out, htg, by have := HG4.out; omega, hl, g1, hx4⟩
    case round =>
      clear HGV htg
      obtain ⟨q1, q2, q3, q4, q5, Lc, x, o, rfl, rfl, rfl, rfl, rfl, hG, htg, ho10, hLc, hx0, hx1⟩ := hrel
      have HG := Lib.hid hG
      have c0 : wr.cell? ⟨xb, 0, none⟩ = some (.int .i64 x) := hG.box.cell 0 (by decide)
      have c1 : wr.cell? ⟨xb, 1, none⟩ = some (.int .i64 o) := hG.box.cell 1 (by decide)
      clear hG
      by_cases ho : o < 10
      · obtain ⟨p, hp⟩ : ∃ p, 2 ^ o = p := ⟨_, rfl⟩
        have hp2 := two_pow_small (k := o) ho10
        rw [hp] at hp2
        obtain ⟨p1, p2⟩ := hp2
        have HP := Lib.hid hp
        have hbl := (Below.refl _ wr).alloc (Nat.le_refl _) (.cells #[.int .i64 (x + p), .int .i64 o] 42)
        have hlx : xb < wr.heap.size := HG.out.box.lt
        have e0 : (wr.alloc (.cells #[.int .i64 (x + p), .int .i64 o] 42)).cell? ⟨xb, 0, none⟩ = some (.int .i64 x) := by rw [hbl.cell (p := ⟨xb, 0, none⟩) hlx]; exact c0
        have e1 : (wr.alloc (.cells #[.int .i64 (x + p), .int .i64 o] 42)).cell? ⟨xb, 1, none⟩ = some (.int .i64 o) := by rw [hbl.cell (p := ⟨xb, 1, none⟩) hlx]; exact c1
        have HH := Lib.hid (block_row wr (x + p) o)
        have HST := Lib.hid (store_block wr #[.int .i64 0, .int .i64 0] rfl (x + p) o)
        have hbx : Below wr.heap.size wr (wr.alloc (.cells #[.int .i64 (x + p), .int .i64 o] 42)) := hbl
        have HX1 := Lib.hid (show xb + 1 ≤ (wr.alloc (.cells #[.int .i64 (x + p), .int .i64 o] 42)).heap.size by simp; omega)
        have c1' := c1
        have HC1' := Lib.hid c1'
        clear hp c1'
        by_cases hodd : x / (p : Int) % 2 = 1
        · have HBA := Lib.hid (show budA x o = x - (p : Int) by unfold budA; rw [HP.out, if_pos hodd])
          have HLA := Lib.hid (show lowA x o = x - (p : Int) by unfold lowA; rw [HP.out, if_pos hodd])
          have eh : ((x / (p : Int)).tmod 2 == 1) = true := by rw [Int.tmod_eq_emod_of_nonneg (Int.ediv_nonneg hx0 (by omega)), hodd]; rfl
          have h0 : (wr.alloc (.cells #[.int .i64 (x + p), .int .i64 o] 42)).cell? ⟨wr.heap.size, 0, none⟩ = some (.int .i64 (x + p)) := HH.out.cell 0 (by decide)
          have hf : (wr.alloc (.cells #[.int .i64 (x + p), .int .i64 o] 42)).frozen? ⟨wr.heap.size, 0, none⟩ = false := HH.out.frozen 0
          have HOB := Lib.hid (block_row wr (x - p) o)
          have HGZ := Lib.hid (HG.out.later ((Below.refl _ wr).alloc (Nat.le_refl _) (.cells #[.int .i64 (x - p), .int .i64 o] 42)))
          have HXZ := Lib.hid (show xb + 1 ≤ (wr.alloc (.cells #[.int .i64 (x - p), .int .i64 o] 42)).heap.size by simp; omega)
          clear hbl hbx hodd HG
          go_wp2_with (first | refine wpList_shl1 rfl _ _ _ _ rfl .u64 o p ho10 HP.out rfl rfl ?_ | refine wpList_store_run rfl 42 _ _ rfl wr.heap.size _ _ rfl rfl HST.out ?_)
          clear h0 hf e0 e1 c0 c1 HST HH
          have c1' := HC1'.out
          generalize (wr.alloc (.cells #[.int .i64 (x - p), .int .i64 o] 42)) = Z at *
          generalize wr.heap.size = ob at *
          obtain ⟨fa, fc, fb, fd, hr6, hl6, ht6, hna, hnb⟩ := HGZ.out.ls
          have L1 := Lib.hid (show ∀ W', Kept Z.heap.size Z W' → (loadVar 38 ⟨r, 1, none⟩).run Try.prog W' = .ok (.slice fa Lc.length fc) W' from
            fun W' hW => run_loadVar_cell (fun _ => by kernel_rfl) ((hr6.later hW.below).cell 1 (by decide)))
          have L2 := Lib.hid (show ∀ W', Kept Z.heap.size Z W' → (loadVar 42 ⟨ob, 0, none⟩).run Try.prog W' = .ok (.agg #[.int .i64 (x - (p : Int)), .int .i64 o]) W' from
            fun W' hW => load_block ((HOB.out.later hW.below).cell 0 (by decide)) ((HOB.out.later hW.below).cell 1 (by decide)))
          have HL6 := Lib.hid hl6
          clear hr6 hl6 ht6 hna hnb
          refine wp_region_lex1 (Kept Z.heap.size Z) [(0, false), (1, false), (2, false), (3, false), (4, false), (5, true), (6, false), (7, false), (8, false), (9, false), (10, false)]
            (by kernel_rfl) (by kernel_rfl) rfl (by kernel_rfl) (Below.refl _ Z).drew ?_
          intro W0 hW0 hK0
          clear hW0
          refine lexH_yieldE rfl rfl ?_
          apply Exists.intro
          refine ⟨fun W hW => ?_, ?_⟩
          focus (go_simp; exact rfl)
          simp only [List.getElem_toArray, List.getElem_cons_zero, Act.put, List.setIfInBounds_toArray, List.set_cons_zero, List.set_cons_succ]
          refine lexH_yieldE rfl rfl ?_
          apply Exists.intro
          refine ⟨fun W hW => ?_, ?_⟩
          focus (go_simp; exact rfl)
          simp only [List.getElem_toArray, List.getElem_cons_succ, List.getElem_cons_zero, Act.put, List.setIfInBounds_toArray, List.set_cons_zero, List.set_cons_succ]
          refine lexH_yieldE rfl rfl ?_
          apply Exists.intro
          refine ⟨fun W hW => ?_, ?_⟩
          focus (go_simp; exact rfl)
          simp only [List.getElem_toArray, List.getElem_cons_succ, List.getElem_cons_zero, Act.put, List.setIfInBounds_toArray, List.set_cons_zero, List.set_cons_succ]
          refine lexH_load rfl rfl _ _ rfl rfl L1.out ?_
          simp only [List.getElem_toArray, List.getElem_cons_succ, List.getElem_cons_zero, Act.put, List.setIfInBounds_toArray, List.set_cons_zero, List.set_cons_succ]
          refine lexH_load rfl rfl _ _ rfl rfl L2.out ?_
          simp only [List.getElem_toArray, List.getElem_cons_succ, List.getElem_cons_zero, Act.put, List.setIfInBounds_toArray, List.set_cons_zero, List.set_cons_succ]
          refine lexH_call 31 #[.slice fa Lc.length fc, .agg #[.int .i64 (x - (p : Int)), .int .i64 o]] rfl rfl ?_ ?_
          focus (go_simp; done)
          refine (drop_any (HL6.out.later hK0.below) (by omega) fc ((x - (p : Int)), (o : Int))).mono ?_
          rintro e W9 ⟨a9, c9, rfl, hs9, hb9⟩
          generalize hcb : Lc.contains ((x - (p : Int)), (o : Int)) = cb
          have HCB := Lib.hid hcb
          have HK9 := Lib.hid (show Kept Z.heap.size Z W9 from hK0.below.trans (hb9.mono hK0.below.size))
          have HS9 := Lib.hid (hs9.base hK0.below.size)
          have HD9 := Lib.hid (Nat.le_trans (dropL_len Lc ((x - (p : Int)), (o : Int))) hLc)
          refine ⟨_, rfl, HK9.out, ?_⟩
          clear hs9 hb9 hK0 hcb
          simp only [List.getElem_toArray, List.getElem_cons_succ, List.getElem_cons_zero, Act.put, List.setIfInBounds_toArray, List.set_cons_zero, List.set_cons_succ]
          refine lexH_yieldE rfl rfl ?_
          apply Exists.intro
          refine ⟨fun W hW => ?_, ?_⟩
          focus (go_simp; exact rfl)
          simp only [List.getElem_toArray, List.getElem_cons_succ, List.getElem_cons_zero, Act.put, List.setIfInBounds_toArray, List.set_cons_zero, List.set_cons_succ]
          refine lexH_yieldE rfl rfl ?_
          apply Exists.intro
          refine ⟨fun W hW => ?_, ?_⟩
          focus (go_simp; exact rfl)
          simp only [List.getElem_toArray, List.getElem_cons_succ, List.getElem_cons_zero, Act.put, List.setIfInBounds_toArray, List.set_cons_zero, List.set_cons_succ]
          refine lexH_yieldE rfl rfl ?_
          apply Exists.intro
          refine ⟨fun W hW => ?_, ?_⟩
          focus (go_simp; exact rfl)
          simp only [List.getElem_toArray, List.getElem_cons_succ, List.getElem_cons_zero, Act.put, List.setIfInBounds_toArray, List.set_cons_zero, List.set_cons_succ]
          refine lexH_yieldE rfl rfl ?_
          apply Exists.intro
          refine ⟨fun W hW => ?_, ?_⟩
          focus (go_simp; exact rfl)
          simp only [List.getElem_toArray, List.getElem_cons_succ, List.getElem_cons_zero, Act.put, List.setIfInBounds_toArray, List.set_cons_zero, List.set_cons_succ]
          refine lexH_yieldE rfl rfl ?_
          apply Exists.intro
          refine ⟨fun W hW => ?_, ?_⟩
          focus (go_simp; exact rfl)
          simp only [List.getElem_toArray, List.getElem_cons_succ, List.getElem_cons_zero, Act.put, List.setIfInBounds_toArray, List.set_cons_zero, List.set_cons_succ]
          refine lexH_nil ?_
          have HG9 := Lib.hid (HGZ.out.later HK9.out.below)
          clear HK9 L1 L2 HL6 HGZ
          cases cb with
          | true =>
            have hge := HG9.out.free (c := c9) (HS9.out.base HXZ.out)
            obtain ⟨_, _, _, _, hr9, _⟩ := HG9.out.ls
            have c1 : W9.cell? ⟨r, 1, none⟩ = _ := hr9.cell 1 (by decide)
            have f1 : W9.frozen? ⟨r, 1, none⟩ = false := hr9.frozen 1
            have HTH := Lib.hid (hge.box.there 0 2 (by decide))
            have hset := Only.setCells (S := Eq xb) (b := xb) rfl [.int .i64 (x - (p : Int)), .int .i64 ((o : Int) + 1)] 0 (W9.setCell ⟨r, 1, none⟩ (.slice a9 (dropL Lc ((x - (p : Int)), (o : Int))).length c9))
            have HGN := Lib.hid (hge.put (x' := (x - (p : Int))) (y' := ((o + 1 : Nat) : Int)) ((hge.box.setCells [.int .i64 (x - (p : Int)), .int .i64 ((o : Int) + 1)] 0 _ _).ext (fun i hi => by
              rcases (show i = 0 ∨ i = 1 by omega) with rfl | rfl <;> simp [blkV])) hset)
            have k0 : (W9.setCell ⟨r, 1, none⟩ (.slice a9 (dropL Lc ((x - (p : Int)), (o : Int))).length c9)).cell? ⟨xb, 1, none⟩ = some (.int .i64 o) := hge.box.cell 1 (by decide)
            have HTN := Lib.hid (show giveL (10 - (o + 1)) (dropL Lc ((x - (p : Int)), (o : Int))) (x - (p : Int)) (o + 1) = tgt by
              rw [← htg, show 10 - o = (10 - (o + 1)) + 1 by omega]
              show _ = if _ then _ else _
              rw [HBA.out, if_pos HCB.out, HLA.out])
            have HLO := Lib.hid (low_in (o := o) hx0)
            rw [HLA.out] at HLO
            have HC1 := Lib.hid c1'
            generalize hln : (dropL Lc ((x - (p : Int)), (o : Int))).length = ln at *
            clear hge hset hr9 HG9 HS9 htg
            go_wp2_with (refine wpList_store_mid rfl 42 _ _ rfl xb 0 #[.int .i64 (x - (p : Int)), .int .i64 ((o : Int) + 1)] rfl rfl HTH.out sizeBlock (two_all _ _) ?_)
            try simp only [Act.put]
            go_roundw
            case rel => exact ⟨_, _, _, _, _, dropL Lc ((x - (p : Int)), (o : Int)), (x - (p : Int)), o + 1, rfl, rfl, rfl, rfl, rfl, HGN.out, HTN.out, by omega, by rw [hln]; exact HD9.out, HLO.out.1, by have := HLO.out.2; omega⟩
            case measure =>
              rw [HC1.out, HGN.out.box.cell 1 (by decide)]
              show (10 - ((o + 1 : Nat) : Int)).toNat < (10 - (o : Int)).toNat
              omega
          | false =>
            have HTN := Lib.hid (show putL Lc (x, (o : Int)) = tgt by
              rw [← htg, show 10 - o = (10 - (o + 1)) + 1 by omega]
              show _ = if _ then _ else _
              rw [HBA.out, if_neg (by rw [HCB.out]; decide)])
            have k0 : W9.cell? ⟨xb, 0, none⟩ = some (.int .i64 x) := HG9.out.box.cell 0 (by decide)
            have k1 : W9.cell? ⟨xb, 1, none⟩ = some (.int .i64 o) := HG9.out.box.cell 1 (by decide)
            clear HS9 htg
            go_wp2_with (fail)
            clear k0 k1
            obtain ⟨ga, gc, gb, gd, hR9⟩ := HG9.out.ref
            refine (put_any hR9 (by omega) (x, (o : Int))).mono ?_
            rintro e W10 ⟨rfl, pa, pc, hR10, _, ho10'⟩
            have HN := Lib.hid (show BGive w r n L T at1 (od : Int) (.returned (.int .i64 0)) W10 from by
              unfold BGive
              rw [HGS.out, ← HTN.out]
              refine ⟨rfl, _, _, hR10, ?_⟩
              have hall := HG9.out.only.trans (ho10'.mono (fun q hq => .inl hq.symm))
              exact ⟨hall.os, hall.tape, hall.output, hall.size, fun q hq hs => hall.block q hq (fun e => e.elim (fun e => hs e.symm) (fun e => by omega))⟩)
            clear hR9 hR10 ho10' HG9 HTN
            go_wp2_with (fail)
            go_ret
            exact HN.out
        · have HBA := Lib.hid (show budA x o = x + (p : Int) by unfold budA; rw [HP.out, if_neg hodd])
          have HLA := Lib.hid (show lowA x o = x by unfold lowA; rw [HP.out, if_neg hodd])
          have eh : ((x / (p : Int)).tmod 2 == 1) = false := by rw [Int.tmod_eq_emod_of_nonneg (Int.ediv_nonneg hx0 (by omega))]; simpa using hodd
          have HOB := Lib.hid HH.out
          have HGZ := Lib.hid (HG.out.later hbx)
          have HXZ := Lib.hid HX1.out
          clear hbl hbx hodd HG
          go_wp2_with (first | refine wpList_shl1 rfl _ _ _ _ rfl .u64 o p ho10 HP.out rfl rfl ?_ | refine wpList_store_run rfl 42 _ _ rfl wr.heap.size _ _ rfl rfl HST.out ?_)
          clear e0 e1 c0 c1 HST HH
          have c1' := HC1'.out
          generalize (wr.alloc (.cells #[.int .i64 (x + p), .int .i64 o] 42)) = Z at *
          generalize wr.heap.size = ob at *
          obtain ⟨fa, fc, fb, fd, hr6, hl6, ht6, hna, hnb⟩ := HGZ.out.ls
          have L1 := Lib.hid (show ∀ W', Kept Z.heap.size Z W' → (loadVar 38 ⟨r, 1, none⟩).run Try.prog W' = .ok (.slice fa Lc.length fc) W' from
            fun W' hW => run_loadVar_cell (fun _ => by kernel_rfl) ((hr6.later hW.below).cell 1 (by decide)))
          have L2 := Lib.hid (show ∀ W', Kept Z.heap.size Z W' → (loadVar 42 ⟨ob, 0, none⟩).run Try.prog W' = .ok (.agg #[.int .i64 (x + (p : Int)), .int .i64 o]) W' from
            fun W' hW => load_block ((HOB.out.later hW.below).cell 0 (by decide)) ((HOB.out.later hW.below).cell 1 (by decide)))
          have HL6 := Lib.hid hl6
          clear hr6 hl6 ht6 hna hnb
          refine wp_region_lex1 (Kept Z.heap.size Z) [(0, false), (1, false), (2, false), (3, false), (4, false), (5, true), (6, false), (7, false), (8, false), (9, false), (10, false)]
            (by kernel_rfl) (by kernel_rfl) rfl (by kernel_rfl) (Below.refl _ Z).drew ?_
          intro W0 hW0 hK0
          clear hW0
          refine lexH_yieldE rfl rfl ?_
          apply Exists.intro
          refine ⟨fun W hW => ?_, ?_⟩
          focus (go_simp; exact rfl)
          simp only [List.getElem_toArray, List.getElem_cons_zero, Act.put, List.setIfInBounds_toArray, List.set_cons_zero, List.set_cons_succ]
          refine lexH_yieldE rfl rfl ?_
          apply Exists.intro
          refine ⟨fun W hW => ?_, ?_⟩
          focus (go_simp; exact rfl)
          simp only [List.getElem_toArray, List.getElem_cons_succ, List.getElem_cons_zero, Act.put, List.setIfInBounds_toArray, List.set_cons_zero, List.set_cons_succ]
          refine lexH_yieldE rfl rfl ?_
          apply Exists.intro
          refine ⟨fun W hW => ?_, ?_⟩
          focus (go_simp; exact rfl)
          simp only [List.getElem_toArray, List.getElem_cons_succ, List.getElem_cons_zero, Act.put, List.setIfInBounds_toArray, List.set_cons_zero, List.set_cons_succ]
          refine lexH_load rfl rfl _ _ rfl rfl L1.out ?_
          simp only [List.getElem_toArray, List.getElem_cons_succ, List.getElem_cons_zero, Act.put, List.setIfInBounds_toArray, List.set_cons_zero, List.set_cons_succ]
          refine lexH_load rfl rfl _ _ rfl rfl L2.out ?_
          simp only [List.getElem_toArray, List.getElem_cons_succ, List.getElem_cons_zero, Act.put, List.setIfInBounds_toArray, List.set_cons_zero, List.set_cons_succ]
          refine lexH_call 31 #[.slice fa Lc.length fc, .agg #[.int .i64 (x + (p : Int)), .int .i64 o]] rfl rfl ?_ ?_
          focus (go_simp; done)
          refine (drop_any (HL6.out.later hK0.below) (by omega) fc ((x + (p : Int)), (o : Int))).mono ?_
          rintro e W9 ⟨a9, c9, rfl, hs9, hb9⟩
          generalize hcb : Lc.contains ((x + (p : Int)), (o : Int)) = cb
          have HCB := Lib.hid hcb
          have HK9 := Lib.hid (show Kept Z.heap.size Z W9 from hK0.below.trans (hb9.mono hK0.below.size))
          have HS9 := Lib.hid (hs9.base hK0.below.size)
          have HD9 := Lib.hid (Nat.le_trans (dropL_len Lc ((x + (p : Int)), (o : Int))) hLc)
          refine ⟨_, rfl, HK9.out, ?_⟩
          clear hs9 hb9 hK0 hcb
          simp only [List.getElem_toArray, List.getElem_cons_succ, List.getElem_cons_zero, Act.put, List.setIfInBounds_toArray, List.set_cons_zero, List.set_cons_succ]
          refine lexH_yieldE rfl rfl ?_
          apply Exists.intro
          refine ⟨fun W hW => ?_, ?_⟩
          focus (go_simp; exact rfl)
          simp only [List.getElem_toArray, List.getElem_cons_succ, List.getElem_cons_zero, Act.put, List.setIfInBounds_toArray, List.set_cons_zero, List.set_cons_succ]
          refine lexH_yieldE rfl rfl ?_
          apply Exists.intro
          refine ⟨fun W hW => ?_, ?_⟩
          focus (go_simp; exact rfl)
          simp only [List.getElem_toArray, List.getElem_cons_succ, List.getElem_cons_zero, Act.put, List.setIfInBounds_toArray, List.set_cons_zero, List.set_cons_succ]
          refine lexH_yieldE rfl rfl ?_
          apply Exists.intro
          refine ⟨fun W hW => ?_, ?_⟩
          focus (go_simp; exact rfl)
          simp only [List.getElem_toArray, List.getElem_cons_succ, List.getElem_cons_zero, Act.put, List.setIfInBounds_toArray, List.set_cons_zero, List.set_cons_succ]
          refine lexH_yieldE rfl rfl ?_
          apply Exists.intro
          refine ⟨fun W hW => ?_, ?_⟩
          focus (go_simp; exact rfl)
          simp only [List.getElem_toArray, List.getElem_cons_succ, List.getElem_cons_zero, Act.put, List.setIfInBounds_toArray, List.set_cons_zero, List.set_cons_succ]
          refine lexH_yieldE rfl rfl ?_
          apply Exists.intro
          refine ⟨fun W hW => ?_, ?_⟩
          focus (go_simp; exact rfl)
          simp only [List.getElem_toArray, List.getElem_cons_succ, List.getElem_cons_zero, Act.put, List.setIfInBounds_toArray, List.set_cons_zero, List.set_cons_succ]
          refine lexH_nil ?_
          have HG9 := Lib.hid (HGZ.out.later HK9.out.below)
          clear HK9 L1 L2 HL6 HGZ
          cases cb with
          | true =>
            have hge := HG9.out.free (c := c9) (HS9.out.base HXZ.out)
            obtain ⟨_, _, _, _, hr9, _⟩ := HG9.out.ls
            have c1 : W9.cell? ⟨r, 1, none⟩ = _ := hr9.cell 1 (by decide)
            have f1 : W9.frozen? ⟨r, 1, none⟩ = false := hr9.frozen 1
            have HTH := Lib.hid (hge.box.there 0 2 (by decide))
            have hset := Only.setCells (S := Eq xb) (b := xb) rfl [.int .i64 x, .int .i64 ((o : Int) + 1)] 0 (W9.setCell ⟨r, 1, none⟩ (.slice a9 (dropL Lc ((x + (p : Int)), (o : Int))).length c9))
            have HGN := Lib.hid (hge.put (x' := x) (y' := ((o + 1 : Nat) : Int)) ((hge.box.setCells [.int .i64 x, .int .i64 ((o : Int) + 1)] 0 _ _).ext (fun i hi => by
              rcases (show i = 0 ∨ i = 1 by omega) with rfl | rfl <;> simp [blkV])) hset)
            have k0 : (W9.setCell ⟨r, 1, none⟩ (.slice a9 (dropL Lc ((x + (p : Int)), (o : Int))).length c9)).cell? ⟨xb, 1, none⟩ = some (.int .i64 o) := hge.box.cell 1 (by decide)
            have HTN := Lib.hid (show giveL (10 - (o + 1)) (dropL Lc ((x + (p : Int)), (o : Int))) x (o + 1) = tgt by
              rw [← htg, show 10 - o = (10 - (o + 1)) + 1 by omega]
              show _ = if _ then _ else _
              rw [HBA.out, if_pos HCB.out, HLA.out])
            have HLO := Lib.hid (low_in (o := o) hx0)
            rw [HLA.out] at HLO
            have HC1 := Lib.hid c1'
            generalize hln : (dropL Lc ((x + (p : Int)), (o : Int))).length = ln at *
            clear hge hset hr9 HG9 HS9 htg
            go_wp2_with (refine wpList_store_mid rfl 42 _ _ rfl xb 0 #[.int .i64 x, .int .i64 ((o : Int) + 1)] rfl rfl HTH.out sizeBlock (two_all _ _) ?_)
            try simp only [Act.put]
            go_roundw
            case rel => exact ⟨_, _, _, _, _, dropL Lc ((x + (p : Int)), (o : Int)), x, o + 1, rfl, rfl, rfl, rfl, rfl, HGN.out, HTN.out, by omega, by rw [hln]; exact HD9.out, HLO.out.1, by have := HLO.out.2; omega⟩
            case measure =>
              rw [HC1.out, HGN.out.box.cell 1 (by decide)]
              show (10 - ((o + 1 : Nat) : Int)).toNat < (10 - (o : Int)).toNat
              omega
          | false =>
            have HTN := Lib.hid (show putL Lc (x, (o : Int)) = tgt by
              rw [← htg, show 10 - o = (10 - (o + 1)) + 1 by omega]
              show _ = if _ then _ else _
              rw [HBA.out, if_neg (by rw [HCB.out]; decide)])
            have k0 : W9.cell? ⟨xb, 0, none⟩ = some (.int .i64 x) := HG9.out.box.cell 0 (by decide)
            have k1 : W9.cell? ⟨xb, 1, none⟩ = some (.int .i64 o) := HG9.out.box.cell 1 (by decide)
            clear HS9 htg
            go_wp2_with (fail)
            clear k0 k1
            obtain ⟨ga, gc, gb, gd, hR9⟩ := HG9.out.ref
            refine (put_any hR9 (by omega) (x, (o : Int))).mono ?_
            rintro e W10 ⟨rfl, pa, pc, hR10, _, ho10'⟩
            have HN := Lib.hid (show BGive w r n L T at1 (od : Int) (.returned (.int .i64 0)) W10 from by
              unfold BGive
              rw [HGS.out, ← HTN.out]
              refine ⟨rfl, _, _, hR10, ?_⟩
              have hall := HG9.out.only.trans (ho10'.mono (fun q hq => .inl hq.symm))
              exact ⟨hall.os, hall.tape, hall.output, hall.size, fun q hq hs => hall.block q hq (fun e => e.elim (fun e => hs e.symm) (fun e => by omega))⟩)
            clear hR9 hR10 ho10' HG9 HTN
            go_wp2_with (fail)
            go_ret
            exact HN.out
      · obtain rfl : o = 10 := by omega
        have HTN := Lib.hid (show putL Lc (x, (10 : Int)) = tgt from htg)
        have HG9 := Lib.hid HG.out
        clear HG htg
        go_wp2_with (fail)
        clear c0 c1
        obtain ⟨ga, gc, gb, gd, hR9⟩ := HG9.out.ref
        refine (put_any hR9 (by omega) (x, (10 : Int))).mono ?_
        rintro e W10 ⟨rfl, pa, pc, hR10, _, ho10'⟩
        have HN := Lib.hid (show BGive w r n L T at1 (od : Int) (.returned (.int .i64 0)) W10 from by
          unfold BGive
          rw [HGS.out, ← HTN.out]
          refine ⟨rfl, _, _, hR10, ?_⟩
          have hall := HG9.out.only.trans (ho10'.mono (fun q hq => .inl hq.symm))
          exact ⟨hall.os, hall.tape, hall.output, hall.size, fun q hq hs => hall.block q hq (fun e => e.elim (fun e => hs e.symm) (fun e => by omega))⟩)
        clear hR9 hR10 ho10' HG9 HTN
        go_wp2_with (fail)
        go_ret
        exact HN.out
end
end Go.Proofs.Ytilcdnkjfbkpnaa
