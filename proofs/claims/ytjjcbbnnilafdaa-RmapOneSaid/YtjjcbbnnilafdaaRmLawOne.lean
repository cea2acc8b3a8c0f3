/-
  The walk of RmapOne, for whatever map.
-/
import Derived.Test.YtjjcbbnnilafdaaRmKp
import Derived.Test.YtjjcbbnnilafdaaRmOps
import Derived.Test.YtjjcbbnnilafdaaRmOneP
import Derived.Test.YtjjcbbnnilafdaaRangeP
import Derived.Deep.LoopGhost
import Derived.StillTailTactics
namespace Go.Proofs.Ytjjcbbnnilafdaa
open Go.RowKit Go.Shelf Go
attribute [local go_sem] Oper.semAt_some

def roF (u : Nat → Value) (rc mb nb pb : Nat) : List Value :=
  [u 0, u 1, u 2, u 3, .pointer (some ⟨rc, 0, none⟩), .pointer (some ⟨mb, 0, none⟩), u 6, .pointer (some ⟨nb, 0, none⟩), u 8, u 9, u 10, u 11, u 12, u 13, u 14, u 15, .pointer (some ⟨pb, 0, none⟩), u 17, u 18, u 19, u 20, u 21, u 22, u 23, u 24, u 25, u 26, u 27, u 28, u 29, u 30, u 31, u 32, u 33, u 34, u 35, u 36, u 37, u 38, u 39, u 40, u 41, u 42, u 43, u 44, u 45, u 46, u 47, u 48, u 49, u 50, u 51, u 52, u 53, u 54, u 55, u 56, u 57, u 58, u 59, u 60, u 61, u 62, u 63, u 64, u 65, u 66, u 67, u 68, u 69, u 70, u 71, u 72, u 73, u 74, u 75, u 76, u 77, u 78, u 79, u 80, u 81, u 82, u 83, u 84, u 85, u 86, u 87, u 88, u 89, u 90, u 91, u 92, u 93, u 94, u 95, u 96, u 97, u 98, u 99, u 100, u 101, u 102, u 103, u 104, u 105, u 106, u 107, u 108, u 109, u 110, u 111, u 112, u 113, u 114, u 115, u 116, u 117, u 118, u 119, u 120, u 121, u 122, u 123, u 124, u 125, u 126, u 127, u 128, u 129, u 130, u 131, u 132, u 133, u 134, u 135, u 136, u 137, u 138, u 139, u 140, u 141, u 142, u 143, u 144, u 145, u 146, u 147, u 148, u 149, u 150, u 151, u 152, u 153, u 154]
set_option maxRecDepth 100000 in
theorem ro_frame {t : Array Value} {rc mb nb pb : Nat} (hs : t.size = 155) (h4 : t[4]? = some (Value.pointer (some ⟨rc, 0, none⟩))) (h5 : t[5]? = some (Value.pointer (some ⟨mb, 0, none⟩))) (h7 : t[7]? = some (Value.pointer (some ⟨nb, 0, none⟩))) (h16 : t[16]? = some (Value.pointer (some ⟨pb, 0, none⟩))) :
    ∃ u, t = (roF u rc mb nb pb).toArray := by
  refine ⟨fun i => t.getD i undef, ?_⟩
  have hu : ∀ i v, t[i]? = some v → t.getD i undef = v := fun i v h => by
    obtain ⟨hl, rfl⟩ := Array.getElem?_eq_some_iff.1 h
    simp [Array.getD, hl]
  have e : t = ((List.range 155).map fun i => t.getD i undef).toArray := by
    apply Array.ext
    · simp [hs]
    · intro i h1 h2
      simp [Array.getD, h1]
  refine e.trans ?_
  congr 1
  obtain ⟨u, hu2⟩ : ∃ u : Nat → Value, u = fun i => t.getD i undef := ⟨_, rfl⟩
  rw [← hu2]
  unfold roF
  rw [← (show u 4 = .pointer (some ⟨rc, 0, none⟩) by rw [hu2]; exact hu 4 _ h4)]
  rw [← (show u 5 = .pointer (some ⟨mb, 0, none⟩) by rw [hu2]; exact hu 5 _ h5)]
  rw [← (show u 7 = .pointer (some ⟨nb, 0, none⟩) by rw [hu2]; exact hu 7 _ h7)]
  rw [← (show u 16 = .pointer (some ⟨pb, 0, none⟩) by rw [hu2]; exact hu 16 _ h16)]
  rfl
theorem still_tailR {P : Program} {id : Nat} {Q : Exit → Act → World → Prop} {a : Act} {w : World} {l : List Oper} (n : Nat) (hm : P.follows .mixedOrders = true) (hB : Region.lexTailB .any l.toArray n = true)
    (h : wpStill P l.toArray w.drew (fun a' => wpList P l.toArray Q (l.drop n) a' w.drew) (l.take n) a) : (Code.region id l.toArray true).wp P Q a w :=
  wp_region_still_tail n hm hB h
theorem capN_gt {n : Int} (h : n ≤ 40) : capN n ≤ 40 := by
  unfold capN
  split
  · omega
  · split <;> omega
/-- The law's world behind the calls: nothing of before turns; a box with a number. -/
structure StO (Wm : World) (c : Int) (W : World) : Prop where
  bel : Below Wm.heap.size Wm W
  row : RowAt W Wm.heap.size 1 (fun _ => .int .i64 c)
theorem StO.later {Wm W W' : World} {c : Int} (h : StO Wm c W) (hb : Below W.heap.size W W') : StO Wm c W' := ⟨h.bel.trans (hb.mono h.bel.size), h.row.later hb⟩
theorem StO.set {Wm W : World} {c : Int} (h : StO Wm c W) (c' : Int) : StO Wm c' (W.setCell ⟨Wm.heap.size, 0, none⟩ (.int .i64 c')) :=
  ⟨h.bel.setCell (p := ⟨Wm.heap.size, 0, none⟩) (Nat.le_refl _) _, bx_set h.row c'⟩
theorem rgO_in {f : Nat → Ownr} {N i : Nat} (h : i < N) : rgO f N (i : Int) = f i := by
  unfold rgO
  rw [if_pos ⟨by omega, by omega⟩, Int.toNat_natCast]
/-- A round's world: ranges' blocks. -/
structure LoAt (Wm : World) (pb : Nat) (c : Int) (p : Nat) (Ds : List Nat) (W : World) : Prop where
  st : StO Wm c W
  pid : RowAt W pb 1 (fun _ => .int .i64 p)
  gt : Wm.heap.size < pb
  nd : Ds.Nodup
  ds : ∀ D ∈ Ds, W.heap[D]? = some (.deferred (some [])) ∧ Wm.heap.size < D
theorem LoAt.later {Wm W W' : World} {pb p : Nat} {c : Int} {Ds : List Nat} (h : LoAt Wm pb c p Ds W) (hb : Below W.heap.size W W') : LoAt Wm pb c p Ds W' :=
  ⟨h.st.later hb, h.pid.later hb, h.gt, h.nd, fun D hD => ⟨(hb.block D (Array.getElem?_eq_some_iff.1 (h.ds D hD).1).1).trans (h.ds D hD).1, (h.ds D hD).2⟩⟩
/-- The two boxes that a range's body turns. -/
structure OnAt (W0 : World) (nb lb : Nat) (n l : Int) (W : World) : Prop where
  rn : RowAt W nb 1 (fun _ => .int .i64 n)
  rl : RowAt W lb 1 (fun _ => .int .i64 l)
  only : Only (fun k => k = nb ∨ k = lb) W0 W
theorem OnAt.later {W0 W W' : World} {nb lb : Nat} {n l : Int} (h : OnAt W0 nb lb n l W) (hb : Below W.heap.size W W') : OnAt W0 nb lb n l W' := ⟨h.rn.later hb, h.rl.later hb, h.only.trans (Only.of_below hb)⟩
theorem OnAt.set {W0 W : World} {nb lb : Nat} {n l : Int} (h : OnAt W0 nb lb n l W) (hne : nb ≠ lb) (n' l' : Int) : OnAt W0 nb lb n' l' ((W.setCell ⟨lb, 0, none⟩ (.int .i64 l')).setCell ⟨nb, 0, none⟩ (.int .i64 n')) := by
  have o1 : Only (fun k => k = lb) W (W.setCell ⟨lb, 0, none⟩ (.int .i64 l')) := Only.setCell (S := fun k => k = lb) _ ⟨lb, 0, none⟩ rfl _
  have o2 : Only (fun k => k = nb) (W.setCell ⟨lb, 0, none⟩ (.int .i64 l')) ((W.setCell ⟨lb, 0, none⟩ (.int .i64 l')).setCell ⟨nb, 0, none⟩ (.int .i64 n')) := Only.setCell (S := fun k => k = nb) _ ⟨nb, 0, none⟩ rfl _
  exact ⟨bx_set (h.rn.only o1 hne) n', (bx_set h.rl l').only o2 (fun e => hne e.symm), h.only.trans ((o1.mono (fun _ e => .inr e)).trans (o2.mono (fun _ e => .inl e)))⟩
theorem on_own {β : Type} {W0 : World} {nb lb : Nat} {n l : β → Int} (h1 : nb < W0.heap.size) (h2 : lb < W0.heap.size) : OwnFrom W0.heap.size (fun (s : β) W => OnAt W0 nb lb (n s) (l s) W) := fun s X Y row i hg hr => by
  have hne : ∀ k, k < W0.heap.size → some k ≠ row := fun k hk e => by have := (hr k e.symm).1; omega
  exact ⟨i.rn.block (hg.block nb i.rn.lt (hne _ h1)), i.rl.block (hg.block lb i.rl.lt (hne _ h2)),
    ⟨hg.os.trans i.only.os, hg.tape.trans i.only.tape, hg.output.trans i.only.output, Nat.le_trans i.only.size hg.size, fun k hk hs => (hg.block k (Nat.lt_of_lt_of_le hk i.only.size) (hne k hk)).trans (i.only.block k hk hs)⟩⟩
section
variable {IsR : Thg → Nat → Nat → (Nat → Ownr) → Prop} (ok : RmOk IsR)
include ok
set_option maxRecDepth 100000 in
set_option maxHeartbeats 8000000 in
theorem lawROne_in (q : Nat) (hm : 8 ≤ q) (frames : Int) (a : Option Addr) (len cap : Nat) (O : Nat → OpA) (w : World) (hI : InI frames) (hO : OpsAt w a len O) :
    CallsIn Fence.wide q Try.prog 4 #[.int .i64 frames, .slice a len cap] w fun e w' => e = .returned (.bool true) ∧ Below w.heap.size w w' := by
  have h1 : 1 ≤ q := by omega
  have HO := Lib.hid hO
  clear hO
  refine callsIn_of_wp_marks Try.func4 rfl trivial ?_ rfl
  simp only [Try.ntmps4, List.size_toArray, List.length_cons, List.length_nil, Nat.reduceAdd, Nat.reduceSub, Array.replicate_succ, Array.replicate_zero, List.push_toArray, List.append_toArray, List.nil_append, List.cons_append]
  refine wpIn_wide.2 ?_
  obtain ⟨wa, hwa⟩ : ∃ wa, w.alloc (.cells #[.bool false] 4) = wa := ⟨_, rfl⟩
  have HB0 := Lib.hid (show Below w.heap.size w wa from by rw [← hwa]; exact (Below.refl _ w).alloc (Nat.le_refl _) _)
  have HSA := Lib.hid (show wa.heap.size = w.heap.size + 1 from by rw [← hwa]; simp)
  have HRC := Lib.hid (show RowAt wa w.heap.size 1 (fun _ => .bool false) from by
    rw [← hwa]
    exact RowAt.new w _ _ 1 (fun _ => .bool false) (fun i hi => by
      obtain rfl : i = 0 := by omega
      rfl))
  by_cases hin : len ≤ 150 ∧ frames ≤ 40
  · obtain ⟨hl, hf⟩ := hin
    have hlI : ¬ (150 : Int) < len := by omega
    have hd2 : decide (150 < len) = false := decide_eq_false (by omega)
    have hd1 : decide ((150 : Int) < (len : Int)) = false := decide_eq_false hlI
    have HF40 := Lib.hid hf
    go_wp2_with (fail)
    clear hwa hd1 hd2 hlI
    obtain ⟨N, hN⟩ : ∃ N, capN frames = N := ⟨_, rfl⟩
    have HN40 := Lib.hid (show N ≤ 40 from by rw [← hN]; exact capN_gt HF40.out)
    refine (ok.new wa frames hI).mono ?_
    rintro e w1 ⟨d, Y, rfl, hY, hT⟩
    rw [hN] at hY
    have HK1 := Lib.hid (KPT.new (Is := fun X => IsR X d N (fun _ => (0, 0))) hY hT)
    have HK2 := Lib.hid (HK1.out.add (Q := fun k => k = w1.heap.size) ((Below.refl _ _).alloc (Nat.le_refl _) (.cells #[.pointer (some ⟨d, 0, none⟩)] 24)) (fun k hk => .inr ⟨Nat.le_of_eq hk.symm, by rw [hk]; simp⟩))
    have HM2 := Lib.hid (RowAt.new w1 #[.pointer (some ⟨d, 0, none⟩)] 24 1 (fun _ => .pointer (some ⟨d, 0, none⟩)) (fun i hi => by
      obtain rfl : i = 0 := by omega
      rfl))
    have HL := Lib.hid (show wa.heap.size ≤ w1.heap.size from HK1.out.bel.size)
    clear hY hT hN HK1 hf
    go_wp2_with (fail)
    generalize w1.alloc (.cells #[.pointer (some ⟨d, 0, none⟩)] 24) = w2 at *
    generalize w1.heap.size = mb at *
    go_loopw [35] (fun iv wl => ∃ (k : Nat) (f : Nat → Ownr), iv = .int .i64 k ∧ k ≤ len ∧ Hid (KPT (fun X => IsR X d N f) wa (fun k => k = mb) wl) ∧ Hid (RowAt wl mb 1 (fun _ => .pointer (some ⟨d, 0, none⟩)))) (fun iv _ => len - (intOf iv).toNat)
    case atStart => exact ⟨0, _, rfl, Nat.zero_le _, HK2, HM2⟩
    case round =>
      clear HK2 HM2
      obtain ⟨k, f, rfl, hk, HK, HM⟩ := hrel
      by_cases hlk : k < len
      · have hkI : (k : Int) < len := by omega
        have HBl := Lib.hid (HB0.out.trans (HK.out.bel.mono HB0.out.size))
        obtain ⟨gi, oi, rfl, _, hok, hcI⟩ := HO.out.one k hlk
        obtain ⟨a0, a1, a2, a3⟩ := hcI wr HBl.out
        have cm : wr.cell? ⟨mb, 0, none⟩ = some (.pointer (some ⟨d, 0, none⟩)) := HM.out.cell 0 (by decide)
        clear hcI HBl
        by_cases hkd : (O k).kind = 1
        · have hkb : ((O k).kind == 1) = true := by simp [hkd]
          go_wp2_with (fail)
          refine still_tailR 6 (by kernel_rfl) (by kernel_rfl) ?_
          simp only [List.take_succ_cons, List.take_zero, List.drop_succ_cons, List.drop_zero]
          repeat still_step
          refine wpStill_nil ?_
          have HKd := Lib.hid (HK.out.later (Below.refl _ _).drew)
          have HMd := Lib.hid (HM.out.later (Below.refl _ _).drew)
          clear a0 a1 a2 a3 cm hkb HK HM
          go_wp2_with (fail)
          refine (clear_kp ok HKd.out (O k).frame hok.1 _ _ rfl rfl).mono ?_
          rintro e w4 ⟨rfl, hk4, ho⟩
          have HK4 := Lib.hid hk4
          have HM4 := Lib.hid (HMd.out.only ho (fun h => h rfl))
          clear hk4 ho HKd HMd
          generalize rcE f N (O k).frame = cc at *
          go_wp2_with (fail)
          go_roundw
          case rel => exact ⟨k + 1, _, by go_num, hlk, HK4, HM4⟩
          case measure => simp [intOf]; omega
        · have hkb : ((O k).kind == 1) = false := by simp; exact hkd
          go_wp2_with (fail)
          refine still_tailR 16 (by kernel_rfl) (by kernel_rfl) ?_
          simp only [List.take_succ_cons, List.take_zero, List.drop_succ_cons, List.drop_zero]
          repeat still_step
          refine wpStill_nil ?_
          have HKd := Lib.hid (HK.out.later (Below.refl _ _).drew)
          have HMd := Lib.hid (HM.out.later (Below.refl _ _).drew)
          clear a0 a1 a2 a3 cm hkb HK HM
          go_wp2_with (fail)
          refine (set_kp ok HKd.out (O k).frame (O k).pid (O k).page hok.1 hok.2.1 hok.2.2 _ _ rfl rfl).mono ?_
          rintro e w4 ⟨rfl, hk4, ho⟩
          have HK4 := Lib.hid hk4
          have HM4 := Lib.hid (HMd.out.only ho (fun h => h rfl))
          clear hk4 ho HKd HMd
          generalize rsE f N (O k).frame (O k).pid (O k).page = cc at *
          go_wp2_with (fail)
          go_roundw
          case rel => exact ⟨k + 1, _, by go_num, hlk, HK4, HM4⟩
          case measure => simp [intOf]; omega
      · obtain rfl : k = len := by omega
        revert wr
        intro Wm HK HM
        obtain ⟨X, hX, hXA, _, _, _⟩ := HK.out
        have HI := Lib.hid (ok.inv hX)
        have HX := Lib.hid hX
        have HXA := Lib.hid hXA
        have HXL := Lib.hid (fun k hk => X.lt Wm hXA k hk)
        have HGT := Lib.hid (show ∀ W, Below Wm.heap.size Wm W → ∀ i : Nat, i < N → Calls Try.prog 17 #[.pointer (some ⟨d, 0, none⟩), .int .i64 i] W fun e w' => e = .returned (.tuple #[.int .i64 (f i).1, .int .i64 (f i).2, .bool (decide ((f i).1 ≠ 0))]) ∧ Below W.heap.size W w' from fun W hb i hi => by
          have h := ok.get (i : Int) ⟨by omega, by have := HN40.out; omega⟩ hX (X.later hXA hb)
          rw [rgO_in hi] at h
          exact h)
        have HCM := Lib.hid (show ∀ W, Below Wm.heap.size Wm W → W.cell? ⟨mb, 0, none⟩ = some (.pointer (some ⟨d, 0, none⟩)) from fun W hb => (HM.out.below hb HM.out.lt).cell 0 (by decide))
        have HBm := Lib.hid HK.out.bel
        have HMB := Lib.hid HM.out.lt
        have hS0 : StO Wm 0 (Wm.alloc (.cells #[.int .i64 0] 3)) := ⟨(Below.refl _ Wm).alloc (Nat.le_refl _) _, bx_new Wm 0 _⟩
        have HS0 := Lib.hid hS0
        have cm := HCM.out _ hS0.bel
        clear hX hXA hS0 HK HM
        go_wp2_with (fail)
        refine (ok.frames HX.out (X.later HXA.out HS0.out.bel)).mono ?_
        rintro e w3 ⟨rfl, hb⟩
        have HS3 := Lib.hid (HS0.out.later hb)
        clear hb HS0 cm
        go_wp2_with (fail)
        go_loopw [71] (fun iv wl => ∃ i : Nat, iv = .int .i64 i ∧ i ≤ N ∧ Hid (StO Wm (cntB (ownB f) i : Nat) wl)) (fun iv _ => N - (intOf iv).toNat)
        case atStart => exact ⟨0, rfl, Nat.zero_le _, HS3⟩
        case round =>
          clear HS3
          obtain ⟨i, rfl, hi, HS⟩ := hrel
          by_cases hlt : i < N
          · have b1 := HN40.out
            have cm := HCM.out wr HS.out.bel
            obtain ⟨⟨p, g⟩, hpg⟩ : ∃ x, f i = x := ⟨_, rfl⟩
            have HG := Lib.hid (HGT.out wr HS.out.bel i hlt)
            rw [hpg] at HG
            have HC1 := Lib.hid (show cntB (ownB f) (i + 1) = cntB (ownB f) i + (decide (p ≠ 0)).toNat from by rw [cntB]; unfold ownB; rw [hpg])
            have HPG := Lib.hid hpg
            have HCL := Lib.hid (cntB_le (ownB f) i)
            clear hpg
            generalize cntB (ownB f) i = c at *
            by_cases hp : p = 0
            · subst hp
              have HC2 := Lib.hid (show cntB (ownB f) (i + 1) = c from HC1.out)
              go_wp2_with (fail)
              refine HG.out.mono ?_
              rintro e w4 ⟨rfl, hb⟩
              have HS4 := Lib.hid (HS.out.later hb)
              rw [show decide ((0 : Nat) ≠ 0) = false from rfl]
              clear hb HS cm HG
              go_wp2_with (fail)
              go_roundw
              case rel => exact ⟨i + 1, by go_num, hlt, by rw [HC2.out]; exact HS4⟩
              case measure => simp [intOf]; omega
            · have HC2 := Lib.hid (show ((cntB (ownB f) (i + 1) : Nat) : Int) = (c : Int) + 1 from by rw [HC1.out, decide_eq_true hp]; rfl)
              have hcl := HCL.out
              go_wp2_with (fail)
              refine HG.out.mono ?_
              rintro e w4 ⟨rfl, hb⟩
              have HS4 := Lib.hid (HS.out.later hb)
              rw [decide_eq_true (show p ≠ 0 from hp)]
              clear hb HS cm HG
              have cn : w4.cell? ⟨Wm.heap.size, 0, none⟩ = some (.int .i64 c) := HS4.out.row.cell 0 (by decide)
              have cf : w4.frozen? ⟨Wm.heap.size, 0, none⟩ = false := HS4.out.row.frozen 0
              have HS5 := Lib.hid (HS4.out.set ((c : Int) + 1))
              have HPN := Lib.hid hp
              clear HS4
              go_wp2_with (fail)
              clear cn cf hp hcl
              generalize w4.setCell ⟨Wm.heap.size, 0, none⟩ (.int .i64 ((c : Int) + 1)) = w5 at *
              go_loopw [86] (fun iv wl => ∃ k : Nat, iv = .int .i64 k ∧ k ≤ i ∧ Hid (StO Wm ((c : Int) + 1) wl)) (fun iv _ => i - (intOf iv).toNat)
              case atStart => exact ⟨0, rfl, Nat.zero_le _, HS5⟩
              case round =>
                clear HS5
                rename World => wk
                obtain ⟨k, rfl, hk, HS⟩ := hrel
                by_cases hlk : k < i
                · have cm := HCM.out wk HS.out.bel
                  obtain ⟨⟨p2, g2⟩, hpg⟩ : ∃ x, f k = x := ⟨_, rfl⟩
                  have HG := Lib.hid (HGT.out wk HS.out.bel k (by omega))
                  rw [hpg] at HG
                  have hne : ¬ (p2 = p ∧ g2 = g) := fun h => by
                    have h3 := HI.out.one k i (by omega) hlt (by rw [hpg]; dsimp only; rw [h.1]; exact HPN.out) (by rw [hpg, HPG.out, h.1, h.2])
                    omega
                  clear hpg
                  obtain ⟨b2, hb2⟩ : ∃ b2, decide (p2 ≠ 0) = b2 := ⟨_, rfl⟩
                  dsimp only at HG
                  rw [hb2] at HG
                  clear hb2
                  go_wp2_with (fail)
                  refine HG.out.mono ?_
                  rintro e w6 ⟨rfl, hb⟩
                  have HS6 := Lib.hid (HS.out.later hb)
                  clear hb HS cm HG
                  cases b2 with
                  | false =>
                    clear hne
                    go_wp2_with (fail)
                    go_roundw
                    case rel => exact ⟨k + 1, by go_num, hlk, HS6⟩
                    case measure => simp [intOf]; omega
                  | true =>
                    by_cases hp2 : p2 = p
                    · have hg2 : ((g2 : Int) == (g : Int)) = false := by
                        have : ¬ g2 = g := fun e => hne ⟨hp2, e⟩
                        simp; omega
                      subst hp2
                      clear hne
                      go_wp2_with (fail)
                      go_roundw
                      case rel => exact ⟨k + 1, by go_num, hlk, HS6⟩
                      case measure => simp [intOf]; omega
                    · have hp3 : ((p2 : Int) == (p : Int)) = false := by simp; omega
                      clear hne hp2
                      go_wp2_with (fail)
                      go_roundw
                      case rel => exact ⟨k + 1, by go_num, hlk, HS6⟩
                      case measure => simp [intOf]; omega
                · obtain rfl : k = i := by omega
                  go_wp2_with (fail)
                  go_roundw
                  case rel => exact ⟨k + 1, by go_num, hlt, by rw [HC2.out]; exact HS⟩
                  case measure => simp [intOf]; omega
          · obtain rfl : i = N := by omega
            have HC9 := Lib.hid (totF_all HI.out)
            have HTL := Lib.hid (show ∀ p, totF f i p ≤ i from fun p => by rw [totF_cnt HI.out]; exact cntB_le _ _)
            have HCL := Lib.hid (cntB_le (ownB f) i)
            generalize cntB (ownB f) i = c0 at *
            have hpn := bx_new wr 1 3
            have HA0 := Lib.hid (show LoAt Wm wr.heap.size ((c0 : Int) - (totF f i 1 : Nat)) 1 [] (wr.alloc (.cells #[.int .i64 1] 3)) from by
              have e0 : totF f i 1 = 0 := by
                show 0 + (ofL f i ((0 : Nat) : Int) 1024).length = 0
                rw [show (ofL f i ((0 : Nat) : Int) 1024) = [] by unfold ofL; rw [if_neg (by decide)]]
                rfl
              rw [e0, Int.natCast_zero, Int.sub_zero]
              exact ⟨HS.out.later ((Below.refl _ _).alloc (Nat.le_refl _) _), hpn, by have := HS.out.row.lt; omega, List.nodup_nil, fun D hD => absurd hD List.not_mem_nil⟩)
            clear hpn HS
            go_wp2_with (fail)
            generalize wr.alloc (.cells #[.int .i64 1] 3) = w4 at *
            generalize wr.heap.size = pb0 at *
            generalize hrc : w.heap.size = rc at *
            refine wp_loop_ghost (fun j a' W => ∃ (p pb : Nat) (Ds : List Nat), j = 9 - p ∧ 1 ≤ p ∧ p ≤ 9 ∧ a'.tmps.size = 155 ∧ a'.tmps[4]? = some (.pointer (some ⟨rc, 0, none⟩)) ∧ a'.tmps[5]? = some (.pointer (some ⟨mb, 0, none⟩)) ∧ a'.tmps[7]? = some (.pointer (some ⟨Wm.heap.size, 0, none⟩)) ∧ a'.tmps[16]? = some (.pointer (some ⟨pb, 0, none⟩)) ∧
              a'.defers = colls Ds ∧ LoAt Wm pb ((c0 : Int) - (totF f i p : Nat)) p Ds W) 8
              ⟨1, pb0, [], rfl, Nat.le_refl _, by omega, rfl, rfl, rfl, rfl, rfl, rfl, HA0.out⟩ ?_
            clear HA0
            rintro j ⟨tm, df⟩ wl ⟨p, pb, Ds, rfl, hp1, hp9, s0, t4, t5, t7, t16, rfl, hA⟩
            dsimp only at s0 t4 t5 t7 t16
            obtain ⟨u, rfl⟩ := ro_frame s0 t4 t5 t7 t16
            have HA := Lib.hid hA
            clear s0 t4 t5 t7 t16 hA
            unfold roF
            have cp : wl.cell? ⟨pb, 0, none⟩ = some (.int .i64 p) := HA.out.pid.cell 0 (by decide)
            by_cases hlp : p < 9
            · have hp8 : (p : Int) ≤ 8 := by omega
              have HOF := Lib.hid (show ∀ W, Below Wm.heap.size Wm W → Calls Try.prog 19 #[.pointer (some ⟨d, 0, none⟩), .int .i64 p] W (TellR X (ofL f i p 1024) W) from fun W hb => ok.of (p : Int) ⟨by omega, by omega⟩ HX.out (X.later HXA.out hb))
              obtain ⟨L, hL⟩ : ∃ L, ofL f i p 1024 = L := ⟨_, rfl⟩
              have HMEM := Lib.hid (show ∀ x ∈ L, x.1 < 1024 ∧ x.2 < i ∧ f x.2 = (p, x.1) from fun x hx => ofL_mem (by rw [hL]; exact hx))
              have HRISE := Lib.hid (show L.Pairwise (fun x y => x.1 < y.1) from by rw [← hL]; exact ofL_rise 1024)
              have HTOT := Lib.hid (show totF f i (p + 1) = totF f i p + L.length from by rw [totF, hL])
              rw [hL] at HOF
              clear hL
              have hln := bx_new wl (-1) 3
              have HA5 := Lib.hid (HA.out.later ((Below.refl _ _).alloc (Nat.le_refl _) (.cells #[.int .i64 (-1)] 3)))
              have HL5 := Lib.hid hln
              have HNL := Lib.hid (show Wm.heap.size < wl.heap.size ∧ pb < wl.heap.size from ⟨HA.out.st.row.lt, HA.out.pid.lt⟩)
              have cm := HCM.out _ HA5.out.st.bel
              have cq : (wl.alloc (.cells #[.int .i64 (-1)] 3)).cell? ⟨pb, 0, none⟩ = some (.int .i64 p) := HA5.out.pid.cell 0 (by decide)
              clear hln HA
              go_wp2_with (fail)
              clear cp
              generalize wl.alloc (.cells #[.int .i64 (-1)] 3) = w5 at *
              generalize wl.heap.size = lb at *
              refine (HOF.out _ HA5.out.st.bel).mono ?_
              rintro e w6 ⟨g0, lb0, own0, rfl, hb, _, hnil0, _, _⟩
              have HA6 := Lib.hid (HA5.out.later hb)
              have HL6 := Lib.hid (HL5.out.later hb)
              clear hb HA5 HL5 cm cq
              have cm := HCM.out _ HA6.out.st.bel
              have cq : w6.cell? ⟨pb, 0, none⟩ = some (.int .i64 p) := HA6.out.pid.cell 0 (by decide)
              go_wp2_with (fail)
              clear hnil0
              refine (HOF.out _ HA6.out.st.bel).mono ?_
              rintro e w7 ⟨g1, lb1, own1, rfl, hb, hent1, _, hown1, hT1⟩
              have HA7 := Lib.hid (HA6.out.later hb)
              have HL7 := Lib.hid (HL6.out.later hb)
              have HENT := Lib.hid hent1
              have HT1 := Lib.hid hT1
              have HOWN := Lib.hid (show ∀ k, own1 k → k < w7.heap.size ∧ ¬ (k = Wm.heap.size ∨ k = lb) from fun k hk => by
                obtain ⟨h2, h3⟩ := hown1 k hk
                refine ⟨h3, fun e => ?_⟩
                have a1 := HNL.out
                have a2 := HL6.out.lt
                rcases h2 with h2 | h2
                · have := HXL.out k h2
                  omega
                · have := HA6.out.st.row.lt
                  omega)
              clear hb HA6 HL6 cm cq hent1 hT1 hown1
              go_wp2_with (fail)
              have hn7 := HA7.out.st.row.lt
              have hl7 := HL7.out.lt
              have hsq := HT1.out.solo (q - 1) (by omega) (fun k => k = Wm.heap.size ∨ k = lb) (fun k hk => by rcases hk with rfl | rfl <;> assumption) HOWN.out
              obtain ⟨c1, hc1⟩ : ∃ c1 : Int, (c0 : Int) - (totF f i p : Nat) = c1 := ⟨_, rfl⟩
              have HC1 := Lib.hid hc1
              have HCB := Lib.hid (show c1 ≤ 40 ∧ -40 ≤ c1 ∧ L.length ≤ 40 from by
                have a1 := HTL.out p
                have a2 := HTL.out (p + 1)
                have a3 := HTOT.out
                have a4 := HCL.out
                have a5 := HN40.out
                omega)
              rw [hc1] at HA7
              clear hc1
              have HNX := Lib.hid (show OnAt w7 Wm.heap.size lb (c1 - (([] : List (Fin L.length)).length : Nat)) (lastP L ([] : List (Fin L.length)).length) w7 from ⟨by simpa using HA7.out.st.row, HL7.out, Only.refl _ _⟩)
              clear HL7 HOWN
              refine (wpIn_wide (n := q)).1 ?_
              refine range_o2 rfl h1 (gf := g1) (lb := lb1) (by simp [go_sem]) trivial HENT.out hsq (fun x => .int .i64 ((L[x.val]'x.isLt).1 : Nat)) (fun x => .int .i64 ((L[x.val]'x.isLt).2 : Nat)) (fun x => rfl) KpZ.trans (fun W l o o' _ _ _ => KpZ.put W l o') (fun pre W => OnAt w7 Wm.heap.size lb (c1 - (pre.length : Nat)) (lastP L pre.length) W) (fun _ _ _ => False) (on_own (n := fun (pre : List (Fin L.length)) => c1 - (pre.length : Nat)) (l := fun (pre : List (Fin L.length)) => lastP L pre.length) hn7 hl7) (fun _ _ _ _ _ h _ _ => h) HNX.out
                18 19 ?assign1 ?body1 ?done1 (fun _ _ _ _ _ _ hIx _ => hIx.elim)
              case assign1 =>
                intro l' pre x V K hl' hI hK
                have HK := Lib.hid hK
                have HI2 := Lib.hid hI
                clear hK hI hsq
                gi_wp2_with (fail)
                have h9 := HK.out V (KeepsFrom.refl _ _) HI2.out (KpZ.of_below (Below.refl _ _))
                simpa using h9
              case body1 =>
                rintro l' pre x U0 V hl' hI hk0 hlen2
                obtain ⟨hxl, _⟩ := next_of_some hlen2
                have HK0 := Lib.hid hk0
                have hpl : pre.length < L.length := by rw [← hxl]; exact x.isLt
                obtain ⟨y, hy⟩ : ∃ y, L[pre.length]'hpl = y := ⟨_, rfl⟩
                have hq2 : L[x.val]'x.isLt = y := by rw [← hy]; exact getElem_congr_idx hxl
                obtain ⟨m1, m2, m3⟩ := HMEM.out y (by rw [← hy]; exact List.getElem_mem _)
                have hlast := lastP_lt HRISE.out hpl
                have hlast2 := lastP_succ hpl
                rw [hy] at hlast hlast2
                obtain ⟨g, r⟩ := y
                dsimp only at m1 m2 m3 hlast hlast2
                simp only [hq2]
                obtain ⟨lv, hlv⟩ : ∃ lv : Int, lastP L pre.length = lv := ⟨_, rfl⟩
                obtain ⟨nv, hnv⟩ : ∃ nv : Int, c1 - (pre.length : Nat) = nv := ⟨_, rfl⟩
                rw [hlv] at hlast
                have kn : V.cell? ⟨Wm.heap.size, 0, none⟩ = some (.int .i64 nv) := by rw [← hnv]; exact hI.rn.cell 0 (by decide)
                have kl : V.cell? ⟨lb, 0, none⟩ = some (.int .i64 lv) := by rw [← hlv]; exact hI.rl.cell 0 (by decide)
                have hVm : Only (fun k => k = Wm.heap.size ∨ k = lb) w7 V := hI.only
                have HXV := Lib.hid (show X.At V from X.only _ _ _ (X.later HXA.out HA7.out.st.bel) hVm (fun k hk h => by have := HXL.out k hk; have := HNL.out; omega))
                have HG := Lib.hid (show Calls Try.prog 17 #[.pointer (some ⟨d, 0, none⟩), .int .i64 r] V fun e w' => e = .returned (.tuple #[.int .i64 p, .int .i64 g, .bool true]) ∧ Below V.heap.size V w' from by
                  have h := ok.get (r : Int) ⟨by omega, by have := HN40.out; omega⟩ HX.out HXV.out
                  rw [rgO_in m2, m3] at h
                  rw [decide_eq_true (show (p, g).1 ≠ 0 from by dsimp only; omega)] at h
                  exact h)
                have cm : V.cell? ⟨mb, 0, none⟩ = some (.pointer (some ⟨d, 0, none⟩)) := hVm.cell (by have := HMB.out; have := HNL.out; omega) (HCM.out _ HA7.out.st.bel)
                have HI3 := Lib.hid hI
                have HLV := Lib.hid hlast2
                have HNV := Lib.hid (show c1 - ((pre ++ [x]).length : Nat) = nv - 1 from by rw [List.length_append, ← hnv]; simp; omega)
                have HLL := Lib.hid (show lastP L (pre ++ [x]).length = (g : Int) from by rw [List.length_append]; exact hlast2)
                have hnv1 : nv ≤ 40 := by have := HCB.out; omega
                have hnv2 : -90 ≤ nv := by have := HCB.out; omega
                have HPB := Lib.hid (show V.cell? ⟨pb, 0, none⟩ = some (.int .i64 p) from hVm.cell (by have := HA7.out.gt; have := HNL.out; omega) (HA7.out.pid.cell 0 (by decide)))
                have cq := HPB.out
                have hlast3 : ¬ (g : Int) ≤ lv := by omega
                clear hsq hk0 hI hxl hlen2 hy hq2 m1 m2 m3 hlast hlast2 hlv hnv hVm HXV
                have HPRE := Lib.hid (show (pre ++ [x]).length = pre.length + 1 from by simp)
                gi_wp2_with (fail)
                refine ⟨trivial, fun _ => by omega, (CallsIn.inRound l' (callsIn_wide.2 HG.out)).mono ?_⟩
                rintro e V2 ⟨rfl, hb⟩
                have HI4 := Lib.hid (HI3.out.later hb)
                have hs := hb.size
                have kn2 : V2.cell? ⟨Wm.heap.size, 0, none⟩ = some (.int .i64 nv) := by rw [hb.cell (p := ⟨Wm.heap.size, 0, none⟩) HI3.out.rn.lt]; exact kn
                have kl2 : V2.cell? ⟨lb, 0, none⟩ = some (.int .i64 lv) := by rw [hb.cell (p := ⟨lb, 0, none⟩) HI3.out.rl.lt]; exact kl
                have cq2 : V2.cell? ⟨pb, 0, none⟩ = some (.int .i64 p) := by rw [hb.cell (p := ⟨pb, 0, none⟩) (World.block_lt_of_cell? _ _ HPB.out)]; exact HPB.out
                have kf2 : V2.frozen? ⟨Wm.heap.size, 0, none⟩ = false := HI4.out.rn.frozen 0
                have kg2 : V2.frozen? ⟨lb, 0, none⟩ = false := HI4.out.rl.frozen 0
                have hnl : Wm.heap.size ≠ lb := by have := HNL.out; omega
                have HSET := Lib.hid (HI4.out.set hnl (nv - 1) (g : Int))
                have HB2 := Lib.hid hb
                have HNE := Lib.hid hnl
                have hln2 : ¬ lb = Wm.heap.size := fun e => hnl e.symm
                clear hb kn kl cq cm
                gi_wp2_with (fail)
                have HON := Lib.hid (show Only (fun k => k = Wm.heap.size ∨ k = lb) V ((V2.setCell ⟨lb, 0, none⟩ (.int .i64 g)).setCell ⟨Wm.heap.size, 0, none⟩ (.int .i64 (nv - 1))) from
                  ((Only.of_below HB2.out).trans (Only.setCell (S := fun k => k = Wm.heap.size ∨ k = lb) _ ⟨lb, 0, none⟩ (.inr rfl) _)).trans (Only.setCell (S := fun k => k = Wm.heap.size ∨ k = lb) _ ⟨Wm.heap.size, 0, none⟩ (.inl rfl) _))
                refine ⟨⟨HON.out.size, fun i o hB hi hc => (HON.out.block i (Array.getElem?_eq_some_iff.1 hi).1 (by omega)).trans hi⟩, HK0.out.trans (KpZ.of_only HON.out), ?_⟩
                show OnAt w7 Wm.heap.size lb (c1 - ((pre ++ [x]).length : Nat)) (lastP L (pre ++ [x]).length) _
                rw [HNV.out, HLL.out]
                exact HSET.out
              case done1 =>
                rintro D xs V hD hxs hI hDk
                have hxl : xs.length = L.length := by
                  have := congrArg List.length hxs
                  rw [List.length_map, List.length_range] at this
                  exact this
                rw [hxl] at hI
                have hc2 : c1 - (L.length : Nat) = (c0 : Int) - (totF f i (p + 1) : Nat) := by have := HC1.out; have := HTOT.out; omega
                rw [hc2] at hI
                have hne : ∀ E ∈ Ds, ¬ (E = Wm.heap.size ∨ E = lb) := fun E hE h => by
                  obtain ⟨a1, a2⟩ := HA7.out.ds E hE
                  rcases h with h | h
                  · omega
                  · obtain ⟨A, t, hA, _⟩ := HNX.out.rl
                    rw [h, hA] at a1
                    cases a1
                have HA8 := Lib.hid (show LoAt Wm pb ((c0 : Int) - (totF f i (p + 1) : Nat)) p (D :: Ds) V from by
                  refine ⟨⟨hI.only.below HA7.out.st.bel HA7.out.st.bel.size (fun k hk => by rcases hk with rfl | rfl; exact Nat.le_refl _; have := HNL.out; omega), hI.rn⟩, HA7.out.pid.only hI.only (fun h => by have := HA7.out.gt; have := HNL.out; omega), HA7.out.gt, List.nodup_cons.2 ⟨fun hm => ?_, HA7.out.nd⟩, fun E hE => ?_⟩
                  · have := (Array.getElem?_eq_some_iff.1 (HA7.out.ds D hm).1).1
                    omega
                  · rcases List.mem_cons.1 hE with rfl | hE
                    · exact ⟨hDk, by omega⟩
                    · exact ⟨(hI.only.block E (Array.getElem?_eq_some_iff.1 (HA7.out.ds E hE).1).1 (hne E hE)).trans (HA7.out.ds E hE).1, (HA7.out.ds E hE).2⟩)
                clear hsq hI hxs hxl hDk HNX HT1 HENT HA7 hne hc2
                have cq : V.cell? ⟨pb, 0, none⟩ = some (.int .i64 p) := HA8.out.pid.cell 0 (by decide)
                have HA9 := Lib.hid (show LoAt Wm V.heap.size ((c0 : Int) - (totF f i (p + 1) : Nat)) (p + 1) (D :: Ds) (V.alloc (.cells #[.int .i64 ((p : Int) + 1)] 3)) from by
                  have h := HA8.out.later ((Below.refl _ _).alloc (Nat.le_refl _) (.cells #[.int .i64 ((p : Int) + 1)] 3))
                  exact ⟨h.st, bx_new V ((p : Int) + 1) _, HA8.out.st.row.lt, h.nd, h.ds⟩)
                clear HA8
                go_wp2_with (fail)
                first | exact ⟨9 - (p + 1), by omega, p + 1, V.heap.size, D :: Ds, rfl, by omega, by omega, rfl, rfl, rfl, rfl, rfl, rfl, HA9.out⟩ | exact ⟨9 - (p + 1), by omega, p + 1, V.heap.size, rfl, by omega, by omega, rfl, D :: Ds, rfl, HA9.out⟩
            · obtain rfl : p = 9 := by omega
              rw [HC9.out, Int.sub_self] at HA
              have cn : wl.cell? ⟨Wm.heap.size, 0, none⟩ = some (.int .i64 0) := HA.out.st.row.cell 0 (by decide)
              rw [show ((9 : Nat) : Int) = 9 from rfl] at cp
              go_wp2_with (fail)
              refine (known_any ok _).mono ?_
              rintro e w8 ⟨rfl, hb⟩
              have HA8 := Lib.hid (HA.out.later hb)
              have HB8 := Lib.hid (HBm.out.trans (HA8.out.st.bel.mono HBm.out.size))
              have HRC8 := Lib.hid (HRC.out.below HB8.out (by have := HSA.out; omega))
              clear hb HA cn cp
              have cr : w8.cell? ⟨rc, 0, none⟩ = some (.bool false) := HRC8.out.cell 0 (by decide)
              have fr : w8.frozen? ⟨rc, 0, none⟩ = false := HRC8.out.frozen 0
              have HRC9 := Lib.hid (HRC8.out.setCell 0 (.bool true))
              have HB9 := Lib.hid ((HB0.out.trans (HB8.out.mono (by have := HSA.out; omega))).setCell (p := ⟨rc, 0, none⟩) (Nat.le_refl _) (.bool true))
              have hsa := HSA.out
              have hmg := HBm.out.size
              go_wp2_with (fail)
              have hDs : ∀ D ∈ Ds, rc ≠ D := fun D hD e => by have := (HA8.out.ds D hD).2; omega
              refine leaves_many Ds _ HA8.out.nd (fun D hD => ?_) (fun W' ho2 hs2 => ⟨.bool true, ?_, rfl, ?_⟩)
              · rw [Below.heap_setCell _ _ _ _ (fun e => hDs D hD e.symm)]
                exact (HA8.out.ds D hD).1
              · have hc := ho2.cell (b := rc) (o := 0) (v := .bool true) (fun hD => hDs _ hD rfl) (HRC9.out.cell 0 (by decide))
                simp [results, Try.f4, go_sem, hc]
              · rw [hrc]
                have hsz := HB9.out.size
                rw [hrc] at hsz
                exact ho2.below HB9.out hsz (fun D hD => by have := (HA8.out.ds D hD).2; omega)
  · rcases (show (150 : Int) < len ∧ 150 < len ∨ ¬ (150 : Int) < len ∧ ¬ 150 < len ∧ (40 : Int) < frames by omega) with ⟨h2, h3⟩ | ⟨h2, h3, h4⟩
    · have hd2 : decide (150 < len) = true := decide_eq_true h3
      clear hin h3
      go_wp2_with (fail)
      clear hwa
      refine (known_any ok wa).mono ?_
      rintro e w4 ⟨rfl, hb⟩
      have HB4 := Lib.hid (HB0.out.trans (hb.mono HB0.out.size))
      have HRC4 := Lib.hid (HRC.out.later hb)
      clear hb
      have cr : w4.cell? ⟨w.heap.size, 0, none⟩ = some (.bool false) := HRC4.out.cell 0 (by decide)
      have fr : w4.frozen? ⟨w.heap.size, 0, none⟩ = false := HRC4.out.frozen 0
      have HRC5 := Lib.hid (HRC4.out.setCell 0 (.bool true))
      have HB5 := Lib.hid (HB4.out.setCell (p := ⟨w.heap.size, 0, none⟩) (Nat.le_refl _) (.bool true))
      go_wp2_with (fail)
      refine ⟨.bool true, ?_, rfl, HB5.out⟩
      have hc := HRC5.out.cell 0 (by decide)
      simp [results, Try.f4, go_sem, hc, updV]
    · have hd2 : decide (150 < len) = false := decide_eq_false h3
      clear hin h3
      go_wp2_with (fail)
      clear hwa
      refine (known_any ok wa).mono ?_
      rintro e w4 ⟨rfl, hb⟩
      have HB4 := Lib.hid (HB0.out.trans (hb.mono HB0.out.size))
      have HRC4 := Lib.hid (HRC.out.later hb)
      clear hb
      have cr : w4.cell? ⟨w.heap.size, 0, none⟩ = some (.bool false) := HRC4.out.cell 0 (by decide)
      have fr : w4.frozen? ⟨w.heap.size, 0, none⟩ = false := HRC4.out.frozen 0
      have HRC5 := Lib.hid (HRC4.out.setCell 0 (.bool true))
      have HB5 := Lib.hid (HB4.out.setCell (p := ⟨w.heap.size, 0, none⟩) (Nat.le_refl _) (.bool true))
      go_wp2_with (fail)
      refine ⟨.bool true, ?_, rfl, HB5.out⟩
      have hc := HRC5.out.cell 0 (by decide)
      simp [results, Try.f4, go_sem, hc, updV]
theorem lawROne_any (frames : Int) (a : Option Addr) (len cap : Nat) (O : Nat → OpA) (w : World) (hI : InI frames) (hO : OpsAt w a len O) :
    Calls Try.prog 4 #[.int .i64 frames, .slice a len cap] w fun e w' => e = .returned (.bool true) ∧ Below w.heap.size w w' :=
  callsIn_wide.1 (lawROne_in ok 8 (Nat.le_refl _) frames a len cap O w hI hO)
end
end Go.Proofs.Ytjjcbbnnilafdaa
