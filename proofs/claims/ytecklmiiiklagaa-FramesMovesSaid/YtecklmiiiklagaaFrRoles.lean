/-
  The walk of FramesRoles: it returns true, and below the old heap nothing has turned.
-/
import Derived.Test.YtecklmiiiklagaaFrCopies
namespace Go.Proofs.Ytecklmiiiklagaa
open Go.RowKit Go

/-- Each frame of T has one of the five roles. -/
def Roles (K : Nat → Mk) (T : Nat) : Prop := ∀ f, f < T → 1 ≤ (K f).r ∧ (K f).r ≤ 5
theorem roles_new (T : Nat) : Roles (fun _ => ⟨1, 0, 0, 0, 0⟩) T := fun _ _ => ⟨Int.le_refl 1, (by decide : (1 : Int) ≤ 5)⟩
/-- What SetMark leaves, whatever it is asked. -/
def SetAny (w : World) (M : MB) (ST : Nat → Nat) (B : Nat → UInt8) (e : Ending) (w' : World) : Prop :=
  ∃ (v : Int) (K : Nat → Mk), e = .returned (.int .i64 v) ∧ MemAt w' M ST B K ∧ Roles K M.T ∧ Only (Eq M.kb) w w'
theorem setmark_any {w : World} {M : MB} {ST : Nat → Nat} {B : Nat → UInt8} {K : Nat → Mk} (H : MemAt w M ST B K) (hK : Roles K M.T) (f : Int) (x : Mk) :
    Calls Try.prog 15 #[.pointer (some ⟨M.m, 0, none⟩), .int .i64 f, .agg x.cells.toArray] w (SetAny w M ST B) := by
  by_cases hf : 0 ≤ f ∧ f < M.T
  · obtain ⟨f, rfl⟩ := Int.eq_ofNat_of_zero_le hf.1
    cases hx : mkMay x with
    | false => exact (setmark_bad H f (by omega) x hx).mono fun e w' ⟨he, hb⟩ => ⟨2, K, he, H.later hb, hK, Only.of_below hb⟩
    | true =>
      refine (setmark_ok H f (by omega) x hx).mono fun e w' ⟨he, hm, ho⟩ => ⟨0, _, he, hm, fun i hi => ?_, ho⟩
      unfold updK
      by_cases e : i = f
      · rw [if_pos e]
        simp only [mkMay, Bool.and_eq_true, decide_eq_true_eq] at hx
        exact hx.1
      · rw [if_neg e]; exact hK i hi
  · exact (setmark_err _ f 7 x w (by decide) (fun w' hb => (H.later hb).asked_no f hf)).mono fun e w' ⟨he, hb⟩ => ⟨7, K, he, H.later hb, hK, Only.of_below hb⟩

/-- The frames of the roles 1 to r - 1. -/
def sumK (K : Nat → Mk) (lo d : Nat) : Nat → Nat
  | 0 => 0
  | r + 1 => sumK K lo d r + cntK K lo (r + 1 : Nat) d
theorem sumK_le (K : Nat → Mk) (lo d : Nat) : ∀ r, sumK K lo d r ≤ r * d
  | 0 => by simp [sumK]
  | r + 1 => by
    have h1 := sumK_le K lo d r
    have h2 := cntK_le K lo (r + 1 : Nat) d
    unfold sumK
    rw [Nat.add_mul]; omega
theorem sumK_five (K : Nat → Mk) (lo d : Nat) : sumK K lo d 5 = cntK K lo 1 d + cntK K lo 2 d + cntK K lo 3 d + cntK K lo 4 d + cntK K lo 5 d := by
  show 0 + cntK K lo 1 d + cntK K lo 2 d + cntK K lo 3 d + cntK K lo 4 d + cntK K lo 5 d = _
  rw [Nat.zero_add]
theorem sumK_all (K : Nat → Mk) (lo : Nat) : ∀ d, (∀ i, i < d → 1 ≤ (K (lo + i)).r ∧ (K (lo + i)).r ≤ 5) → sumK K lo d 5 = d
  | 0, _ => rfl
  | d + 1, h => by
    have h1 := sumK_all K lo d (fun i hi => h i (by omega))
    have h2 := h d (by omega)
    rw [sumK_five] at h1 ⊢
    have e : ∀ r, cntK K lo r (d + 1) = cntK K lo r d + if (K (lo + d)).r = r then 1 else 0 := fun _ => rfl
    simp only [e]
    generalize (K (lo + d)).r = r at h2 ⊢
    rcases (show r = 1 ∨ r = 2 ∨ r = 3 ∨ r = 4 ∨ r = 5 by omega) with rfl | rfl | rfl | rfl | rfl <;> simp <;> omega

/-- What a list of calls has for FramesRoles: of each its F and its M. -/
def OpRow (w : World) (a : Option Addr) (len : Nat) (F : Nat → Int) (X : Nat → Mk) : Prop :=
  ∀ i, i < len → ∃ b o, a = some ⟨b, o, none⟩ ∧ w.cell? ⟨b, o + i * 11 + 1, none⟩ = some (.int .i64 (F i)) ∧ w.rangeAt b (o + i * 11 + 5) (X i).cells

theorem Only.drew (S : Nat → Prop) (w : World) : Only S w w.drew := ⟨rfl, rfl, rfl, Nat.le_refl _, fun _ _ _ => rfl⟩
theorem CfgAt.only {S : Nat → Prop} {w w' : World} {b : Nat} {A : Array Value} {g : Nat → Int} (C : CfgAt w b A g) (h : Only S w w') (hs : ¬ S b) : CfgAt w' b A g :=
  ⟨C.cfg, by rw [h.block b C.lt hs]; exact C.block⟩

set_option maxRecDepth 100000 in
set_option maxHeartbeats 4000000 in
theorem lawRoles_any (A : Array Value) (g : Nat → Int) (a : Option Addr) (len cap : Nat) (F : Nat → Int) (X : Nat → Mk) (w : World) (hA : Cfg A g) (hl : len ≤ 9223372036854775807) (hx : OpRow w a len F X) :
    Calls Try.prog 5 #[.agg A, .slice a len cap] w fun e w' => e = .returned (.bool true) ∧ Below w.heap.size w w' := by
  have C0 := CfgAt.new w hA
  have HA := Lib.hid hA
  have HX := Lib.hid hx
  have hB0 : Below w.heap.size w (w.alloc (.cells A 57)) := (Below.refl _ _).alloc (Nat.le_refl _) _
  have HB0 := Lib.hid hB0
  have hs0 : (w.alloc (.cells A 57)).heap.size = w.heap.size + 1 := by simp
  clear hA hB0 hx
  cases hm : mayB g with
  | false =>
    have HM := Lib.hid hm
    clear hm
    go_enter Try.func5, Try.ntmps5
    go_wp2_with (refine wpList_load_cfg rfl _ rfl _ rfl C0 ?_)
    refine (fnew_no A g _ HA.out HM.out).mono ?_
    rintro e w1 ⟨rfl, hb⟩
    have HB1 := Lib.hid (HB0.out.trans (hb.mono HB0.out.size))
    clear hb
    go_wp2_with (fail)
    refine (known_any w1).mono ?_
    rintro e w2 ⟨rfl, hb⟩
    have HB2 := Lib.hid (HB1.out.trans (hb.mono HB1.out.size))
    clear hb
    go_wp2_with (fail)
    go_ret
    exact ⟨rfl, HB2.out⟩
  | true =>
    have G := (good_iff g).1 hm
    obtain ⟨T, hT, hT1⟩ := total_nat G
    have HN := Lib.hid (fun w => fnew_ok A g T w HA.out G hT hT1)
    have HG := Lib.hid G
    clear hm hT G
    go_enter Try.func5, Try.ntmps5
    go_wp2_with (refine wpList_load_cfg rfl _ rfl _ rfl C0 ?_)
    generalize w.alloc (.cells A 57) = w1 at HB0 C0 hs0 ⊢
    refine (HN.out w1).mono ?_
    rintro e w2 ⟨M, rfl, H, hn, hT, m1, m2, m3, m4, hb2⟩
    have hs := HB0.out.size
    have HB2 := Lib.hid (HB0.out.trans (hb2.mono hs))
    have H2 := Lib.hid H
    have HC2 := Lib.hid (C0.later hb2)
    have Hn := Lib.hid hn
    clear hn hT hb2 HN C0 H
    by_cases hl3 : 300 < len
    · go_wp2_with (fail)
      refine (known_any w2).mono ?_
      rintro e w3 ⟨rfl, hb⟩
      have HB3 := Lib.hid (HB2.out.trans (hb.mono HB2.out.size))
      clear hb
      go_wp2_with (fail)
      go_ret
      exact ⟨rfl, HB3.out⟩
    · have g25 : decide (300 < (len : Int)) = false := decide_eq_false (by omega)
      go_wp2_with (fail)
      clear g25
      go_loopw [30] (fun i wr => ∃ (k : Nat) (K : Nat → Mk), k ≤ len ∧ i = .int .i64 k ∧ MemAt wr M (stN g) (fun _ => 0) K ∧ Roles K M.T ∧ CfgAt wr w.heap.size A g ∧ Below w.heap.size w wr) (fun i _ => len - (intOf i).toNat)
      case atStart => exact ⟨0, _, Nat.zero_le _, rfl, H2.out, roles_new _, HC2.out, HB2.out⟩
      case round =>
        obtain ⟨k, K, hk, rfl, H, hK, hC, hB⟩ := hrel
        have HH := Lib.hid H
        have HK := Lib.hid hK
        have HC := Lib.hid hC
        have HB := Lib.hid hB
        clear H hK hC hB
        by_cases hlt : k < len
        · obtain ⟨b, o, rfl, c1, r1⟩ := HX.out k hlt
          have hlb := World.block_lt_of_cell? _ _ c1
          have c2 : wr.cell? ⟨b, o + k * 11 + 1, none⟩ = some (.int .i64 (F k)) := by rw [HB.out.cell (p := ⟨b, o + k * 11 + 1, none⟩) hlb]; exact c1
          have r2 : wr.rangeAt b (o + k * 11 + 5) (X k).cells := fun j v hv => by rw [HB.out.cell (p := ⟨b, o + k * 11 + 5 + j, none⟩) hlb]; exact r1 j v hv
          have hS := fun w' (h : MemAt w' M (stN g) (fun _ => 0) K) => setmark_any h HK.out (F k) (X k)
          have HS := Lib.hid hS
          generalize X k = x at r2 HS
          generalize F k = fk at c2 HS
          clear c1 r1 hS
          obtain ⟨x0, x1, x2, x3, x4⟩ := x
          unfold Mk.cells at r2 HS
          dsimp only at r2
          have e0 := r2 0 _ rfl
          have e1 := r2 1 _ rfl
          have e2 := r2 2 _ rfl
          have e3 := r2 3 _ rfl
          have e4 := r2 4 _ rfl
          have hkl : (k : Int) < (len : Int) := by omega
          go_wp2_with (fail)
          refine still_tail 11 (by kernel_rfl) (by kernel_rfl) ?_
          simp only [List.take_succ_cons, List.take_zero, List.drop_succ_cons, List.drop_zero]
          repeat still_step
          refine wpStill_nil ?_
          clear e0 e1 e2 e3 e4 r2 c2 hkl
          have Hd := HH.out.only (Only.drew (fun _ => False) wr) id id id id
          have Cd := Lib.hid (HC.out.only (Only.drew (fun _ => False) wr) id)
          have Bd := Lib.hid HB.out.drew
          go_wp2_with (fail)
          refine (HS.out wr.drew Hd).mono ?_
          rintro e w3 ⟨v, K3, rfl, H3, hK3, ho3⟩
          have H3 := Lib.hid H3
          have hK3 := Lib.hid hK3
          have C3 := Lib.hid (Cd.out.only ho3 (by omega))
          have B3 := Lib.hid (ho3.below Bd.out Bd.out.size (fun k hk => by omega))
          clear ho3 Hd
          go_wp2_with (fail)
          go_roundw
          case rel => exact ⟨k + 1, K3, hlt, by go_num, H3.out, hK3.out, C3.out, B3.out⟩
          case measure => simp [intOf]; omega
        · obtain rfl : k = len := by omega
          rename World => w4
          have c0 := HC.out.cell 0 (by decide)
          rw [Hn.out] at c0
          have n8 := HH.out.n8
          go_wp2_with (fail)
          go_loopw [48] (fun i ws => ∃ j : Nat, j ≤ M.n ∧ i = .int .i64 j ∧ Below w4.heap.size w4 ws) (fun i _ => M.n - (intOf i).toNat)
          case atStart => exact ⟨0, Nat.zero_le _, rfl, Below.refl _ _⟩
          case round =>
            obtain ⟨j, hj, rfl, hBs⟩ := hrel
            rename World => w5
            have HBs := Lib.hid hBs
            by_cases hlt2 : j < M.n
            · obtain ⟨s1, s2⟩ := HH.out.st j hlt2
              have T1 := HH.out.T1
              have e1 := stN_int HG.out Hn.out j (by omega)
              have e2 := stN_int HG.out Hn.out (j + 1) (by omega)
              have e3 : sumF g (j + 1) = sumF g j + g (18 + j) := rfl
              obtain ⟨d, hd⟩ : ∃ d, d = stN g (j + 1) - stN g j := ⟨_, rfl⟩
              have hgd : g (18 + j) = d := by omega
              have hd1 : d ≤ 1024 := by omega
              have hall := sumK_all K (stN g j) d (fun i hi => HK.out _ (by omega))
              have HALL := Lib.hid hall
              have HD := Lib.hid hd
              have HGD := Lib.hid hgd
              clear e1 e2 e3 hgd hd hall s1 s2 T1 hBs
              go_wp2_with (fail)
              go_loopw [9, 10] (fun s r wt => ∃ q : Nat, q ≤ 5 ∧ r = .int .u8 ((q : Int) + 1) ∧ s = .int .i64 (sumK K (stN g j) d q) ∧ Below w4.heap.size w4 wt) (fun _ r _ => 6 - (intOf r).toNat)
              case atStart => exact ⟨0, by decide, rfl, rfl, HBs.out⟩
              case round =>
                obtain ⟨q, hq, rfl, rfl, hBt⟩ := hrel
                have HBt := Lib.hid hBt
                by_cases hlt3 : q < 5
                · have hc := count_at (HH.out.later hBt) j ((q : Int) + 1) hlt2
                  rw [← HD.out] at hc
                  have b1 := sumK_le K (stN g j) d q
                  have b2 := cntK_le K (stN g j) ((q : Int) + 1) d
                  have b3 : q * d ≤ 5 * 1024 := Nat.mul_le_mul (by omega) hd1
                  have HE := Lib.hid (show sumK K (stN g j) d (q + 1) = sumK K (stN g j) d q + cntK K (stN g j) ((q : Int) + 1) d from rfl)
                  have HCt := Lib.hid hc
                  generalize cntK K (stN g j) ((q : Int) + 1) d = cc at b2 HE HCt
                  generalize sumK K (stN g j) d q = ss at b1 HE ⊢
                  clear hc hBt
                  go_wp2_with (fail)
                  refine HCt.out.mono ?_
                  rintro e w6 ⟨rfl, hb5⟩
                  have HB5 := Lib.hid (HBt.out.trans (hb5.mono HBt.out.size))
                  clear hb5
                  go_wp2_with (fail)
                  go_roundw
                  case rel => exact ⟨q + 1, by omega, by go_num, by rw [HE.out]; go_num, HB5.out⟩
                  case measure => simp [intOf]; omega
                · obtain rfl : q = 5 := by omega
                  rw [HALL.out]
                  have c1 := (HC.out.later hBt).cell (18 + j) (by omega)
                  rw [HGD.out] at c1
                  clear hBt
                  go_wp2_with (fail)
                  go_roundw
                  case rel => exact ⟨j + 1, hlt2, by go_num, HBt.out⟩
                  case measure => simp [intOf]; omega
            · obtain rfl : j = M.n := by omega
              have HB9 := Lib.hid (HB.out.trans (hBs.mono HB.out.size))
              clear hBs
              go_wp2_with (fail)
              refine (known_any w5).mono ?_
              rintro e w9 ⟨rfl, hb⟩
              have HB10 := Lib.hid (HB9.out.trans (hb.mono HB9.out.size))
              clear hb
              go_wp2_with (fail)
              go_ret
              exact ⟨rfl, HB10.out⟩
end Go.Proofs.Ytecklmiiiklagaa
