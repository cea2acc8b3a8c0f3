/-
  The walk of AreasEither: it returns true, and below the old heap nothing has turned.
-/
import Derived.Test.YthnkbipdlepbaaaArTwo
namespace Go.Proofs.Ythnkbipdlepbaaa
open Go.RowKit Go.Shelf Go
attribute [local go_sem] Oper.semAt_some
section
variable {IsA : Thg → Nat → (Nat → Nat) → Prop} (ok : AreasOk IsA)
include ok
set_option maxRecDepth 100000 in
set_option maxHeartbeats 8000000 in
theorem lawAEither_in (m : Nat) (hm : 8 ≤ m) (a : Option Addr) (len cap : Nat) (O : Nat → OpA) (ka pa ca : Int) (ra : Nat) (kb pb cb : Int) (rb : Nat) (ha8 : Okp pa ra) (hb8 : Okp pb rb) (w : World) (hO : OpsAt w a len O) :
    CallsIn Fence.wide m Try.prog 7 #[.slice a len cap, .agg #[.int .i64 ka, .int .i64 pa, .int .i64 ca, .int .u8 ra], .agg #[.int .i64 kb, .int .i64 pb, .int .i64 cb, .int .u8 rb]] w fun e w' => e = .returned (.bool true) ∧ Below w.heap.size w w' := by
  have h1 : 1 ≤ m := by omega
  obtain ⟨i0, hi, hz0, hz1, hz2⟩ := info_parts infoRun
  have HO := Lib.hid hO
  have HRa := Lib.hid ha8
  have HRb := Lib.hid hb8
  clear hO ha8 hb8
  refine callsIn_of_wp_marks Try.func7 rfl trivial ?_ rfl
  simp only [Try.ntmps7, List.size_toArray, List.length_cons, List.length_nil, Nat.reduceAdd, Nat.reduceSub, Array.replicate_succ, Array.replicate_zero, List.push_toArray, List.append_toArray, List.nil_append, List.cons_append]
  refine wpIn_wide.2 ?_
  go_wp2_with (fail)
  rw [show w.heap.size + 1 + 1 = w.heap.size + 2 from rfl]
  obtain ⟨w1, hw1⟩ : ∃ w1, ((w.alloc (.cells #[.int .i64 ka, .int .i64 pa, .int .i64 ca, .int .u8 ra] 30)).alloc (.cells #[.int .i64 kb, .int .i64 pb, .int .i64 cb, .int .u8 rb] 30)).alloc (.cells #[.bool false] 4) = w1 := ⟨_, rfl⟩
  have hb1 : Below w.heap.size w w1 := by rw [← hw1]; exact (((Below.refl _ _).alloc (Nat.le_refl _) _).alloc (by simp) _).alloc (by simp; omega) _
  have hs1 : w1.heap.size = w.heap.size + 3 := by rw [← hw1]; simp
  have ka1 : w1.cell? ⟨w.heap.size, 1, none⟩ = some (.int .i64 pa) := by rw [← hw1]; simp [go_sem]
  have ka2 : w1.cell? ⟨w.heap.size, 2, none⟩ = some (.int .i64 ca) := by rw [← hw1]; simp [go_sem]
  have ka3 : w1.cell? ⟨w.heap.size, 3, none⟩ = some (.int .u8 ra) := by rw [← hw1]; simp [go_sem]
  have kb1 : w1.cell? ⟨w.heap.size + 1, 1, none⟩ = some (.int .i64 pb) := by rw [← hw1]; simp [go_sem]
  have kb2 : w1.cell? ⟨w.heap.size + 1, 2, none⟩ = some (.int .i64 cb) := by rw [← hw1]; simp [go_sem]
  have kb3 : w1.cell? ⟨w.heap.size + 1, 3, none⟩ = some (.int .u8 rb) := by rw [← hw1]; simp [go_sem]
  have hrc : RowAt w1 (w.heap.size + 2) 1 (fun _ => .bool false) := by
    rw [← hw1]
    have h := RowAt.new ((w.alloc (.cells #[.int .i64 ka, .int .i64 pa, .int .i64 ca, .int .u8 ra] 30)).alloc (.cells #[.int .i64 kb, .int .i64 pb, .int .i64 cb, .int .u8 rb] 30)) #[.bool false] 4 1 (fun _ => .bool false) (fun i hi => by
      obtain rfl : i = 0 := by omega
      rfl)
    simpa using h
  rw [hw1]
  have Sa1 := Lib.hid (show ∀ V, Below w1.heap.size w1 V → (loadVar 3 ⟨w.heap.size, 1, none⟩).run Try.prog V = .ok (.int .i64 pa) V from fun V hV => run_loadVar_cell (fun _ => by kernel_rfl) (by rw [hV.cell (World.block_lt_of_cell? _ _ ka1)]; exact ka1))
  have Sa2 := Lib.hid (show ∀ V, Below w1.heap.size w1 V → (loadVar 3 ⟨w.heap.size, 2, none⟩).run Try.prog V = .ok (.int .i64 ca) V from fun V hV => run_loadVar_cell (fun _ => by kernel_rfl) (by rw [hV.cell (World.block_lt_of_cell? _ _ ka2)]; exact ka2))
  have Sa3 := Lib.hid (show ∀ V, Below w1.heap.size w1 V → (loadVar 5 ⟨w.heap.size, 3, none⟩).run Try.prog V = .ok (.int .u8 ra) V from fun V hV => run_loadVar_cell (fun _ => by kernel_rfl) (by rw [hV.cell (World.block_lt_of_cell? _ _ ka3)]; exact ka3))
  have Sb1 := Lib.hid (show ∀ V, Below w1.heap.size w1 V → (loadVar 3 ⟨w.heap.size + 1, 1, none⟩).run Try.prog V = .ok (.int .i64 pb) V from fun V hV => run_loadVar_cell (fun _ => by kernel_rfl) (by rw [hV.cell (World.block_lt_of_cell? _ _ kb1)]; exact kb1))
  have Sb2 := Lib.hid (show ∀ V, Below w1.heap.size w1 V → (loadVar 3 ⟨w.heap.size + 1, 2, none⟩).run Try.prog V = .ok (.int .i64 cb) V from fun V hV => run_loadVar_cell (fun _ => by kernel_rfl) (by rw [hV.cell (World.block_lt_of_cell? _ _ kb2)]; exact kb2))
  have Sb3 := Lib.hid (show ∀ V, Below w1.heap.size w1 V → (loadVar 5 ⟨w.heap.size + 1, 3, none⟩).run Try.prog V = .ok (.int .u8 rb) V from fun V hV => run_loadVar_cell (fun _ => by kernel_rfl) (by rw [hV.cell (World.block_lt_of_cell? _ _ kb3)]; exact kb3))
  have HB1 := Lib.hid hb1
  have HRC := Lib.hid hrc
  clear hw1 hb1 hrc ka1 ka2 ka3 kb1 kb2 kb3
  refine (new_ak ok w1).mono ?_
  rintro e w2 ⟨d, rfl, hK⟩
  have HK := Lib.hid hK
  clear hK
  go_wp2_with (fail)
  refine (new_p2 ok HK.out).mono ?_
  rintro e w3 ⟨d2, rfl, hP⟩
  have HP3 := Lib.hid hP
  clear hP HK
  by_cases hlen : len ≤ 50
  · have hlenI : ¬ (50 < (len : Int)) := by omega
    go_wp2_with (fail)
    go_loopw [42] (fun i wr => ∃ (k : Nat) (f : Nat → Nat), k ≤ len ∧ i = .int .i64 k ∧ Hid (P2 IsA w1 d f d2 f wr)) (fun i _ => len - (intOf i).toNat)
    case atStart => exact ⟨0, _, Nat.zero_le _, rfl, HP3⟩
    case round =>
      clear HP3
      obtain ⟨k, f, hk, rfl, HD⟩ := hrel
      by_cases hlt : k < len
      · obtain ⟨b, o, rfl, hbl, hok, hc⟩ := HO.out.one k hlt
        have HC := Lib.hid (fun V (hV : Below w1.heap.size w1 V) => hc V (HB1.out.trans (hV.mono HB1.out.size)))
        obtain ⟨c0, c1, c2, c3⟩ := HC.out wr HD.out.bel
        have hltI : (k : Int) < (len : Int) := by omega
        have HOK := Lib.hid hok
        clear hc hbl hok
        generalize O k = op at *
        go_wp2_with (fail)
        refine (play_p2 ok HD.out op HOK.out).mono ?_
        rintro e w4 ⟨rfl, hK⟩
        have HK4 := Lib.hid hK
        clear hK c0 c1 c2 c3
        obtain ⟨c0, c1, c2, c3⟩ := HC.out w4 HK4.out.bel
        go_wp2_with (fail)
        refine (play_p2 ok HK4.out.swap op HOK.out).mono ?_
        rintro e w5 ⟨rfl, hK⟩
        have HK5 := Lib.hid hK.swap
        clear hK c0 c1 c2 c3 HK4 HC
        go_wp2_with (fail)
        go_roundw
        case rel => exact ⟨k + 1, _, hlt, by go_num, HK5⟩
        case measure => simp [intOf]; omega
      · obtain rfl : k = len := by omega
        clear hlen hlenI hlt hk HO
        go_wp2_with (fail)
        refine wp_region_lex1 (fun V => Below w1.heap.size w1 V) [(0, false), (1, false), (2, false), (3, false), (4, false), (5, false), (6, false), (8, false), (9, false), (10, false), (11, false), (12, false), (13, false), (14, false), (7, true), (15, true), (16, false), (17, false)] (by kernel_rfl) (by kernel_rfl) rfl (by kernel_rfl) HD.out.bel.drew ?_
        intro W0 hW0 hK0
        have HPa := Lib.hid (show P2 IsA w1 d f d2 f W0 by rw [hW0]; exact HD.out.later (Below.refl _ _).drew)
        clear hW0 hK0
        refine lexH_yieldE rfl rfl ?_
        apply Exists.intro
        refine ⟨fun W hW => ?_, ?_⟩
        focus (go_simp; exact rfl)
        simp only [List.getElem_toArray, List.getElem_cons_zero, Act.put, List.setIfInBounds_toArray, List.set_cons_zero, List.set_cons_succ]
        refine lexH_yieldE rfl rfl ?_
        apply Exists.intro
        refine ⟨fun W hW => ?_, ?_⟩
        focus (go_simp; exact rfl)
        simp only [List.getElem_toArray, List.getElem_cons_succ, List.getElem_cons_zero, Act.put, List.setIfInBounds_toArray, List.set_cons_zero, List.set_cons_succ]
        refine lexH_load rfl rfl _ _ rfl rfl Sa1.out ?_
        simp only [List.getElem_toArray, List.getElem_cons_succ, List.getElem_cons_zero, Act.put, List.setIfInBounds_toArray, List.set_cons_zero, List.set_cons_succ]
        refine lexH_yieldE rfl rfl ?_
        apply Exists.intro
        refine ⟨fun W hW => ?_, ?_⟩
        focus (go_simp; exact rfl)
        simp only [List.getElem_toArray, List.getElem_cons_succ, List.getElem_cons_zero, Act.put, List.setIfInBounds_toArray, List.set_cons_zero, List.set_cons_succ]
        refine lexH_load rfl rfl _ _ rfl rfl Sa2.out ?_
        simp only [List.getElem_toArray, List.getElem_cons_succ, List.getElem_cons_zero, Act.put, List.setIfInBounds_toArray, List.set_cons_zero, List.set_cons_succ]
        refine lexH_yieldE rfl rfl ?_
        apply Exists.intro
        refine ⟨fun W hW => ?_, ?_⟩
        focus (go_simp; exact rfl)
        simp only [List.getElem_toArray, List.getElem_cons_succ, List.getElem_cons_zero, Act.put, List.setIfInBounds_toArray, List.set_cons_zero, List.set_cons_succ]
        refine lexH_load rfl rfl _ _ rfl rfl Sa3.out ?_
        simp only [List.getElem_toArray, List.getElem_cons_succ, List.getElem_cons_zero, Act.put, List.setIfInBounds_toArray, List.set_cons_zero, List.set_cons_succ]
        refine lexH_yieldE rfl rfl ?_
        apply Exists.intro
        refine ⟨fun W hW => ?_, ?_⟩
        focus (go_simp; exact rfl)
        simp only [List.getElem_toArray, List.getElem_cons_succ, List.getElem_cons_zero, Act.put, List.setIfInBounds_toArray, List.set_cons_zero, List.set_cons_succ]
        refine lexH_yieldE rfl rfl ?_
        apply Exists.intro
        refine ⟨fun W hW => ?_, ?_⟩
        focus (go_simp; exact rfl)
        simp only [List.getElem_toArray, List.getElem_cons_succ, List.getElem_cons_zero, Act.put, List.setIfInBounds_toArray, List.set_cons_zero, List.set_cons_succ]
        refine lexH_load rfl rfl _ _ rfl rfl Sb1.out ?_
        simp only [List.getElem_toArray, List.getElem_cons_succ, List.getElem_cons_zero, Act.put, List.setIfInBounds_toArray, List.set_cons_zero, List.set_cons_succ]
        refine lexH_yieldE rfl rfl ?_
        apply Exists.intro
        refine ⟨fun W hW => ?_, ?_⟩
        focus (go_simp; exact rfl)
        simp only [List.getElem_toArray, List.getElem_cons_succ, List.getElem_cons_zero, Act.put, List.setIfInBounds_toArray, List.set_cons_zero, List.set_cons_succ]
        refine lexH_load rfl rfl _ _ rfl rfl Sb2.out ?_
        simp only [List.getElem_toArray, List.getElem_cons_succ, List.getElem_cons_zero, Act.put, List.setIfInBounds_toArray, List.set_cons_zero, List.set_cons_succ]
        refine lexH_yieldE rfl rfl ?_
        apply Exists.intro
        refine ⟨fun W hW => ?_, ?_⟩
        focus (go_simp; exact rfl)
        simp only [List.getElem_toArray, List.getElem_cons_succ, List.getElem_cons_zero, Act.put, List.setIfInBounds_toArray, List.set_cons_zero, List.set_cons_succ]
        refine lexH_load rfl rfl _ _ rfl rfl Sb3.out ?_
        simp only [List.getElem_toArray, List.getElem_cons_succ, List.getElem_cons_zero, Act.put, List.setIfInBounds_toArray, List.set_cons_zero, List.set_cons_succ]
        refine lexH_call 11 #[.pointer (some ⟨d, 0, none⟩), .int .i64 pa, .int .i64 ca, .int .u8 ra] rfl rfl ?_ ?_
        focus (go_simp; done)
        refine (map_p2 ok HPa.out pa ca ra HRa.out).mono ?_
        rintro e w4 ⟨rfl, hP4⟩
        have HPb := Lib.hid hP4
        refine ⟨_, rfl, hP4.bel, ?_⟩
        clear hP4 HPa
        simp only [List.getElem_toArray, List.getElem_cons_succ, List.getElem_cons_zero, Act.put, List.setIfInBounds_toArray, List.set_cons_zero, List.set_cons_succ]
        refine lexH_call 11 #[.pointer (some ⟨d, 0, none⟩), .int .i64 pb, .int .i64 cb, .int .u8 rb] rfl rfl ?_ ?_
        focus (go_simp; done)
        refine (map_p2 ok HPb.out pb cb rb HRb.out).mono ?_
        rintro e w5 ⟨rfl, hP5⟩
        have HPc := Lib.hid hP5
        refine ⟨_, rfl, hP5.bel, ?_⟩
        clear hP5 HPb
        simp only [List.getElem_toArray, List.getElem_cons_succ, List.getElem_cons_zero, Act.put, List.setIfInBounds_toArray, List.set_cons_zero, List.set_cons_succ]
        refine lexH_yieldE rfl rfl ?_
        apply Exists.intro
        refine ⟨fun W hW => ?_, ?_⟩
        focus (go_simp; exact rfl)
        simp only [List.getElem_toArray, List.getElem_cons_succ, List.getElem_cons_zero, Act.put, List.setIfInBounds_toArray, List.set_cons_zero, List.set_cons_succ]
        refine lexH_yieldE rfl rfl ?_
        apply Exists.intro
        refine ⟨fun W hW => ?_, ?_⟩
        focus (go_simp; exact rfl)
        simp only [List.getElem_toArray, List.getElem_cons_succ, List.getElem_cons_zero, Act.put, List.setIfInBounds_toArray, List.set_cons_zero, List.set_cons_succ]
        refine lexH_nil ?_
        go_wp2_with (fail)
        refine wp_region_lex1 (fun V => Below w1.heap.size w1 V) [(0, false), (1, false), (2, false), (3, false), (4, false), (5, false), (6, false), (8, false), (9, false), (10, false), (11, false), (12, false), (13, false), (14, false), (7, true), (15, true), (16, false), (17, false)] (by kernel_rfl) (by kernel_rfl) rfl (by kernel_rfl) HPc.out.bel.drew ?_
        intro W0 hW0 hK0
        have HPa := Lib.hid (show P2 IsA w1 d2 f d (mapA (mapA f pa ca ra) pb cb rb) W0 by rw [hW0]; exact HPc.out.swap.later (Below.refl _ _).drew)
        clear hW0 hK0
        refine lexH_yieldE rfl rfl ?_
        apply Exists.intro
        refine ⟨fun W hW => ?_, ?_⟩
        focus (go_simp; exact rfl)
        simp only [List.getElem_toArray, List.getElem_cons_zero, Act.put, List.setIfInBounds_toArray, List.set_cons_zero, List.set_cons_succ]
        refine lexH_yieldE rfl rfl ?_
        apply Exists.intro
        refine ⟨fun W hW => ?_, ?_⟩
        focus (go_simp; exact rfl)
        simp only [List.getElem_toArray, List.getElem_cons_succ, List.getElem_cons_zero, Act.put, List.setIfInBounds_toArray, List.set_cons_zero, List.set_cons_succ]
        refine lexH_load rfl rfl _ _ rfl rfl Sb1.out ?_
        simp only [List.getElem_toArray, List.getElem_cons_succ, List.getElem_cons_zero, Act.put, List.setIfInBounds_toArray, List.set_cons_zero, List.set_cons_succ]
        refine lexH_yieldE rfl rfl ?_
        apply Exists.intro
        refine ⟨fun W hW => ?_, ?_⟩
        focus (go_simp; exact rfl)
        simp only [List.getElem_toArray, List.getElem_cons_succ, List.getElem_cons_zero, Act.put, List.setIfInBounds_toArray, List.set_cons_zero, List.set_cons_succ]
        refine lexH_load rfl rfl _ _ rfl rfl Sb2.out ?_
        simp only [List.getElem_toArray, List.getElem_cons_succ, List.getElem_cons_zero, Act.put, List.setIfInBounds_toArray, List.set_cons_zero, List.set_cons_succ]
        refine lexH_yieldE rfl rfl ?_
        apply Exists.intro
        refine ⟨fun W hW => ?_, ?_⟩
        focus (go_simp; exact rfl)
        simp only [List.getElem_toArray, List.getElem_cons_succ, List.getElem_cons_zero, Act.put, List.setIfInBounds_toArray, List.set_cons_zero, List.set_cons_succ]
        refine lexH_load rfl rfl _ _ rfl rfl Sb3.out ?_
        simp only [List.getElem_toArray, List.getElem_cons_succ, List.getElem_cons_zero, Act.put, List.setIfInBounds_toArray, List.set_cons_zero, List.set_cons_succ]
        refine lexH_yieldE rfl rfl ?_
        apply Exists.intro
        refine ⟨fun W hW => ?_, ?_⟩
        focus (go_simp; exact rfl)
        simp only [List.getElem_toArray, List.getElem_cons_succ, List.getElem_cons_zero, Act.put, List.setIfInBounds_toArray, List.set_cons_zero, List.set_cons_succ]
        refine lexH_yieldE rfl rfl ?_
        apply Exists.intro
        refine ⟨fun W hW => ?_, ?_⟩
        focus (go_simp; exact rfl)
        simp only [List.getElem_toArray, List.getElem_cons_succ, List.getElem_cons_zero, Act.put, List.setIfInBounds_toArray, List.set_cons_zero, List.set_cons_succ]
        refine lexH_load rfl rfl _ _ rfl rfl Sa1.out ?_
        simp only [List.getElem_toArray, List.getElem_cons_succ, List.getElem_cons_zero, Act.put, List.setIfInBounds_toArray, List.set_cons_zero, List.set_cons_succ]
        refine lexH_yieldE rfl rfl ?_
        apply Exists.intro
        refine ⟨fun W hW => ?_, ?_⟩
        focus (go_simp; exact rfl)
        simp only [List.getElem_toArray, List.getElem_cons_succ, List.getElem_cons_zero, Act.put, List.setIfInBounds_toArray, List.set_cons_zero, List.set_cons_succ]
        refine lexH_load rfl rfl _ _ rfl rfl Sa2.out ?_
        simp only [List.getElem_toArray, List.getElem_cons_succ, List.getElem_cons_zero, Act.put, List.setIfInBounds_toArray, List.set_cons_zero, List.set_cons_succ]
        refine lexH_yieldE rfl rfl ?_
        apply Exists.intro
        refine ⟨fun W hW => ?_, ?_⟩
        focus (go_simp; exact rfl)
        simp only [List.getElem_toArray, List.getElem_cons_succ, List.getElem_cons_zero, Act.put, List.setIfInBounds_toArray, List.set_cons_zero, List.set_cons_succ]
        refine lexH_load rfl rfl _ _ rfl rfl Sa3.out ?_
        simp only [List.getElem_toArray, List.getElem_cons_succ, List.getElem_cons_zero, Act.put, List.setIfInBounds_toArray, List.set_cons_zero, List.set_cons_succ]
        refine lexH_call 11 #[.pointer (some ⟨d2, 0, none⟩), .int .i64 pb, .int .i64 cb, .int .u8 rb] rfl rfl ?_ ?_
        focus (go_simp; done)
        refine (map_p2 ok HPa.out pb cb rb HRb.out).mono ?_
        rintro e w4 ⟨rfl, hP4⟩
        have HPb := Lib.hid hP4
        refine ⟨_, rfl, hP4.bel, ?_⟩
        clear hP4 HPa
        simp only [List.getElem_toArray, List.getElem_cons_succ, List.getElem_cons_zero, Act.put, List.setIfInBounds_toArray, List.set_cons_zero, List.set_cons_succ]
        refine lexH_call 11 #[.pointer (some ⟨d2, 0, none⟩), .int .i64 pa, .int .i64 ca, .int .u8 ra] rfl rfl ?_ ?_
        focus (go_simp; done)
        refine (map_p2 ok HPb.out pa ca ra HRa.out).mono ?_
        rintro e w5 ⟨rfl, hP5⟩
        have HPe := Lib.hid hP5
        refine ⟨_, rfl, hP5.bel, ?_⟩
        clear hP5 HPb
        simp only [List.getElem_toArray, List.getElem_cons_succ, List.getElem_cons_zero, Act.put, List.setIfInBounds_toArray, List.set_cons_zero, List.set_cons_succ]
        refine lexH_yieldE rfl rfl ?_
        apply Exists.intro
        refine ⟨fun W hW => ?_, ?_⟩
        focus (go_simp; exact rfl)
        simp only [List.getElem_toArray, List.getElem_cons_succ, List.getElem_cons_zero, Act.put, List.setIfInBounds_toArray, List.set_cons_zero, List.set_cons_succ]
        refine lexH_yieldE rfl rfl ?_
        apply Exists.intro
        refine ⟨fun W hW => ?_, ?_⟩
        focus (go_simp; exact rfl)
        simp only [List.getElem_toArray, List.getElem_cons_succ, List.getElem_cons_zero, Act.put, List.setIfInBounds_toArray, List.set_cons_zero, List.set_cons_succ]
        refine lexH_nil ?_
        have HRW := Lib.hid (HRC.out.later HPe.out.bel)
        have HBW := Lib.hid (HB1.out.trans (HPe.out.bel.mono HB1.out.size))
        clear HPc Sa1 Sa2 Sa3 Sb1 Sb2 Sb3
        by_cases hE1 : mapE f pa ca ra = 0
        · rw [hE1]
          by_cases hE2 : mapE (mapA f pa ca ra) pb cb rb = 0
          · rw [hE2]
            by_cases hE3 : mapE f pb cb rb = 0
            · rw [hE3]
              by_cases hE4 : mapE (mapA f pb cb rb) pa ca ra = 0
              · rw [hE4]
                have heq := map_either hE1 hE2 hE3 hE4
                clear hE1 hE2 hE3 hE4
                have HINV := Lib.hid (HPe.out.inv ok)
                obtain ⟨Y, X, hY, hAY, hX, hA, hbel, hYlo, hXlo⟩ := HPe.out
                have HX := Lib.hid hX
                have HA := Lib.hid hA
                have HY := Lib.hid hY
                have HAYq := Lib.hid hAY
                clear hX hA hY hAY hbel hYlo hXlo
                obtain ⟨L, hL⟩ : ∃ L, rns (mapA (mapA f pa ca ra) pb cb rb) = L := ⟨_, rfl⟩
                have HLL := Lib.hid hL
                have HLL2 := Lib.hid (show rns (mapA (mapA f pb cb rb) pa ca ra) = L from by rw [← heq]; exact hL)
                have HLNz := Lib.hid (show L.length ≤ 32 from by rw [← hL, heq]; exact HINV.out.2.2)
                clear hL heq HPe HINV
                go_wp2_with (fail)
                have HLXq := Lib.hid (X.lt w5 HA.out)
                have HLYq := Lib.hid (Y.lt w5 HAYq.out)
                obtain ⟨W0, hW0⟩ : ∃ W0, w5.alloc (.cells #[.slice none 0 0] TRs) = W0 := ⟨_, rfl⟩
                have hb0 : Below w5.heap.size w5 W0 := by rw [← hW0]; exact (Below.refl _ _).alloc (Nat.le_refl _) _
                have hx0 : Boxed W0 w5.heap.size TRs (.slice none 0 0) := by rw [← hW0]; exact Boxed.new w5 _ _
                have hs0 : W0.heap.size = w5.heap.size + 1 := by rw [← hW0]; simp
                rw [hW0]
                have HA0 := Lib.hid (X.later HA.out hb0)
                have HAY0 := Lib.hid (Y.later HAYq.out hb0)
                have HB0 := Lib.hid (HBW.out.trans (hb0.mono HBW.out.size))
                have HR0 := Lib.hid (HRW.out.later hb0)
                have HX0 := Lib.hid hx0
                have HWBX := Lib.hid (show w.heap.size + 2 < w5.heap.size from HRW.out.lt)
                clear hW0 hb0 hx0 HA HAYq HBW HRW
                generalize w5.heap.size = bx at *
                refine (ok.runs HX.out HA0.out).mono ?_
                rintro e W1 ⟨g0, lb0, own0, rfl, hb, _, hnil0, _, _⟩
                have HA1 := Lib.hid (X.later HA0.out hb)
                have HAY1 := Lib.hid (Y.later HAY0.out hb)
                have HB1x := Lib.hid (HB0.out.trans (hb.mono HB0.out.size))
                have HR1 := Lib.hid (HR0.out.later hb)
                have HX1 := Lib.hid (show Boxed W1 bx TRs (.slice none 0 0) from (hb.block bx HX0.out.lt).trans HX0.out)
                have hs1' := hb.size
                clear hb
                go_wp2_with (fail)
                refine (ok.runs HX.out HA1.out).mono ?_
                rintro e W2 ⟨g1, lb1, own1, rfl, hb, hent1, hnil1, hown1, hT1⟩
                rw [show rns (mapA (mapA f pa ca ra) pb cb rb) = L from HLL.out] at hT1
                have HAY2 := Lib.hid (Y.later HAY1.out hb)
                have HBW2 := Lib.hid (HB1x.out.trans (hb.mono HB1x.out.size))
                have HRW2 := Lib.hid (HR1.out.later hb)
                have HBX2 := Lib.hid (show Boxed W2 bx TRs (.slice none 0 0) from (hb.block bx HX1.out.lt).trans HX1.out)
                have HT1 := Lib.hid hT1
                have HENT1 := Lib.hid hent1
                have HLN1 := Lib.hid HLNz.out
                have HLY := Lib.hid (show ∀ k, Y.has k → k < bx from HLYq.out)
                have HOWN1 := Lib.hid (show ∀ k, own1 k → k < W2.heap.size ∧ k ≠ bx from fun k hk => by
                  obtain ⟨h1, h2⟩ := hown1 k hk
                  refine ⟨h2, fun e => ?_⟩
                  rcases h1 with h1 | h1
                  · have := HLXq.out k h1; omega
                  · omega)
                clear hb hent1 hown1 hT1 hnil0 hnil1 HA0 HA1 HAY0 HAY1 HB0 HB1x HR0 HR1 HX0 HX1 HLYq
                go_wp2_with (fail)
                have hbxW1 : bx < W2.heap.size := HBX2.out.lt
                have hsq1 := HT1.out.grow (m - 1) (by omega) bx hbxW1 (by rw [boxOwn_of HBX2.out.cell]; rfl) HOWN1.out
                refine (wpIn_wide (n := m)).1 ?_
                refine range_oB rfl h1 (gf := g1) (lb := lb1) (by simp [go_sem]) trivial HENT1.out hsq1 KpG.trans (fun W l o o' hl h hc => KpG.put l o' hbxW1 hl h hc) (fun x => rfl)
                  (GrowR W2 bx L) (fun _ _ _ => False) (growR_own L hbxW1) (fun _ _ _ _ _ h _ _ => h.elim) ⟨_, HBX2.out, World.ownsRow_nil _ _ _ _, Only.refl _ _⟩
                  15 (fun l U0 x zb W' => RowAt W' zb 3 (rnV (L[x.val]'x.isLt)) ∧ KpG bx W2.heap.size U0 W') (fun l U0 x zb W o o' hl R hk ho => ⟨row_put o' R.1 hk ho, R.2.trans (KpG.put l o' hbxW1 hl hk ho)⟩) ?assign1 ?body1 ?done1 (fun _ _ _ _ _ _ h _ => h.elim)
                case assign1 =>
                  intro l pre x W K hl hI hK
                  have HK := Lib.hid hK
                  have HI := Lib.hid hI
                  have HR := Lib.hid (run_row W (L[x.val]'x.isLt))
                  have HST := Lib.hid (store_run W (L[x.val]'x.isLt))
                  have HW := Lib.hid ((Below.refl _ W).alloc (Nat.le_refl _) (.cells #[.int .i64 (L[x.val]'x.isLt).1, .int .i64 (L[x.val]'x.isLt).2.1, .int .u8 (L[x.val]'x.isLt).2.2] TRun))
                  clear hK hI hsq1
                  unfold runV at HST
                  simp only [runV]
                  gi_wp2_with (fail)
                  have h9 := HK.out W.heap.size _ ((KeepsOthers.alloc W _).from _) (HI.out.later HW.out) ⟨HR.out, KpG.of_below (by have := HI.out.le; omega) HW.out⟩
                  simpa [runV] using h9
                case body1 =>
                  rintro l pre x zb U0 W hl ⟨v, hv, hr, ho⟩ ⟨hz, hkp0⟩ hlen
                  obtain ⟨hxl, _⟩ := next_of_some hlen
                  have HKP0 := Lib.hid hkp0
                  have hpl : pre.length < L.length := by rw [← hxl]; exact x.isLt
                  obtain ⟨va, vc, hve, _⟩ := owns_slice hr
                  subst hve
                  have HV := Lib.hid hv
                  have HR := Lib.hid hr
                  have HO := Lib.hid ho
                  have hle := ho.size
                  have hlp : pre.length ≤ 1000 := by have := HLN1.out; omega
                  have cv := hv.cell
                  have fv := hv.frozen
                  have z0 : W.cell? ⟨zb, 0, none⟩ = some (.int .i64 (L[x.val]'x.isLt).1) := hz.cell 0 (by decide)
                  have z1 : W.cell? ⟨zb, 1, none⟩ = some (.int .i64 (L[x.val]'x.isLt).2.1) := hz.cell 1 (by decide)
                  have z2 : W.cell? ⟨zb, 2, none⟩ = some (.int .u8 (L[x.val]'x.isLt).2.2) := hz.cell 2 (by decide)
                  clear hv hr ho hz hlen hsq1 hkp0 hxl hpl
                  simp only [runV]
                  gi_wp2_with (gi_at_builtin; refine wpListIn_append_one W rfl _ _ TRs rfl W2.heap.size TRun i0 _ 3 24 Try.underlying49 hi hz0 hz1 hz2 rfl (by decide) _ _ _ #[.int .i64 (L[x.val]'x.isLt).1, .int .i64 (L[x.val]'x.isLt).2.1, .int .u8 (L[x.val]'x.isLt).2.2] HR.out hle rfl rfl rfl (run_one _ _ _) hlp (by decide) ?_)
                  intro v' w1 hown hg hat
                  obtain ⟨hv1, ⟨hb2, hr2, ho2⟩, hkf, hkp⟩ := grow_step HV.out hteR HR.out HO.out hown hg hat
                  obtain ⟨va2, vc2, hve, _⟩ := owns_slice hown
                  subst hve
                  have HB2 := Lib.hid hb2
                  have HR2 := Lib.hid hr2
                  have HO2 := Lib.hid ho2
                  have HKF := Lib.hid hkf
                  have HKP := Lib.hid hkp
                  have cv := hv1.cell
                  have fv := hv1.frozen
                  clear hv1 hb2 hr2 ho2 hkf hkp hown hg hat z0 z1 z2
                  gi_wp2_with (fail)
                  exact ⟨HKF.out, HKP0.out.trans HKP.out, _, HB2.out, by
                    rw [List.length_append, toldL_one, recV_append, recV_single]
                    exact HR2.out, HO2.out⟩
                case done1 =>
                  rintro D xs V hD hxs hI hK
                  have hlx : xs.length = L.length := by
                    have := congrArg List.length hxs
                    simpa using this
                  obtain ⟨v, hv, hr, ho⟩ := hI
                  rw [toldL_all hxs, hlx] at hr
                  clear hlx hxs hsq1
                  obtain ⟨va, vc, hve⟩ := ownR_slice hr
                  subst hve
                  have HV := Lib.hid hv
                  have HR := Lib.hid hr
                  have HDV := Lib.hid hK
                  have HAYV := Lib.hid (Y.only _ _ _ HAY2.out ho (fun k hk h => by have := HLY.out k hk; omega))
                  have HBV := Lib.hid (ho.below HBW2.out HBW2.out.size (fun k hk => by have := HWBX.out; omega))
                  have HRV := Lib.hid (HRW2.out.only ho (by have := HWBX.out; omega))
                  have hszV := ho.size
                  have HDW := Lib.hid (show w.heap.size + 2 < D from by have := HWBX.out; have := HBX2.out.lt; omega)
                  clear hv hr ho hK
                  go_wp2_with (fail)
                  obtain ⟨V0, hV0⟩ : ∃ V0, V.alloc (.cells #[.int .i64 0] 3) = V0 := ⟨_, rfl⟩
                  have hb0 : Below V.heap.size V V0 := by rw [← hV0]; exact (Below.refl _ _).alloc (Nat.le_refl _) _
                  have hs0 : V0.heap.size = V.heap.size + 1 := by rw [← hV0]; simp
                  have kn : V0.cell? ⟨V.heap.size, 0, none⟩ = some (.int .i64 0) := by rw [← hV0]; simp [go_sem]
                  have kf : V0.frozen? ⟨V.heap.size, 0, none⟩ = false := by rw [← hV0]; simp [go_sem]
                  rw [hV0]
                  have HKN := Lib.hid kn
                  have HKF := Lib.hid kf
                  have HB0 := Lib.hid hb0
                  have HAY0 := Lib.hid (Y.later HAYV.out hb0)
                  have HVS := Lib.hid (show ∀ k, (k = bx ∨ k = D ∨ (Value.slice va L.length vc).ownBlock = some k) → k < V.heap.size from by
                    rintro k (h | h | h)
                    · subst h; exact HV.out.lt
                    · subst h; exact (Array.getElem?_eq_some_iff.1 HDV.out).1
                    · exact (HR.out.lt k h).2)
                  clear hV0 hb0 kn kf
                  refine (ok.runs HY.out HAY0.out).mono ?_
                  rintro e V1 ⟨g3, lb3, own3, rfl, hb, _, hnil3, _, _⟩
                  have HAY1' := Lib.hid (Y.later HAY0.out hb)
                  have HB01 := Lib.hid hb
                  have hs1v := hb.size
                  clear hb
                  go_wp2_with (fail)
                  refine (ok.runs HY.out HAY1'.out).mono ?_
                  rintro e W5 ⟨g2, lb2, own2, rfl, hb, hent2, hnil2, hown2, hT2⟩
                  rw [show rns (mapA (mapA f pb cb rb) pa ca ra) = L from HLL2.out] at hT2
                  have HB05 := Lib.hid (show Below V0.heap.size V0 W5 from HB01.out.trans (hb.mono HB01.out.size))
                  have HBV5 := Lib.hid (show Below V.heap.size V W5 from HB0.out.trans (HB05.out.mono HB0.out.size))
                  have HBW5 := Lib.hid (HBV.out.trans (HBV5.out.mono HBV.out.size))
                  have HRW5 := Lib.hid (HRV.out.later HBV5.out)
                  have HT2 := Lib.hid hT2
                  have HENT2 := Lib.hid hent2
                  have HBX5 := Lib.hid (show Boxed W5 bx TRs (.slice va L.length vc) from (HBV5.out.block bx HV.out.lt).trans HV.out)
                  have HR5 := Lib.hid (owns_later HR.out HBV5.out)
                  have HD5 := Lib.hid ((HBV5.out.block D (HVS.out D (.inr (.inl rfl)))).trans HDV.out)
                  have HN0 := Lib.hid (show CnAt W5 V.heap.size ([] : List (Fin L.length)) W5 from
                    ⟨by rw [HB05.out.cell (World.block_lt_of_cell? _ _ HKN.out)]; exact HKN.out, by rw [HB05.out.frozen (World.block_lt_of_cell? _ _ HKN.out)]; exact HKF.out, Only.refl _ _⟩)
                  have HOWN2 := Lib.hid (show ∀ k, own2 k → k < W5.heap.size ∧ ¬ k = V.heap.size from fun k hk => by
                    obtain ⟨h1, h2⟩ := hown2 k hk
                    refine ⟨h2, fun e => ?_⟩
                    rcases h1 with h1 | h1
                    · have := Y.lt V HAYV.out k h1; omega
                    · omega)
                  have HGN := Lib.hid (show ∀ k, (Value.slice va L.length vc).ownBlock = some k → k ≠ V.heap.size from fun k hk e => by have := HVS.out k (.inr (.inr hk)); omega)
                  have HNB := Lib.hid (show bx < V.heap.size ∧ w.heap.size + 2 < V.heap.size from by have := HVS.out bx (.inl rfl); have := HWBX.out; omega)
                  have HNB2 := Lib.hid (show V.heap.size ≤ W5.heap.size from HBV5.out.size)
                  have HNBL := Lib.hid (show V.heap.size < W5.heap.size from by have := HB05.out.size; omega)
                  have HDL5 := Lib.hid (show D < W5.heap.size ∧ D < V.heap.size from by have := HVS.out D (.inr (.inl rfl)); have := HNB2.out; omega)
                  clear hb hent2 hown2 hT2 hnil3 hnil2 HAY0 HAY1' HB0 HB01 HV HR HDV
                  go_wp2_with (fail)
                  generalize V.heap.size = nb at *
                  have hsq2 := HT2.out.solo (m - 1) (by omega) (fun k => k = nb) (fun k hk => by have := HN0.out.only.size; have := World.block_lt_of_cell? _ _ HN0.out.cn; subst hk; exact this) HOWN2.out
                  refine (wpIn_wide (n := m)).1 ?_
                  refine range_oB rfl h1 (gf := g2) (lb := lb2) (by simp [go_sem]) trivial HENT2.out hsq2 KpZ.trans (fun W l o o' _ _ _ => KpZ.put W l o') (fun x => rfl) (CnAt W5 (nb)) (fun _ _ _ => False) (cn_own (World.block_lt_of_cell? _ _ HN0.out.cn)) (fun _ _ _ _ _ h _ _ => h) HN0.out
                    17 (fun l U0 x zb W' => RowAt W' zb 3 (rnV (L[x.val]'x.isLt)) ∧ W5.heap.size ≤ zb ∧ KpZ (fun k => k = nb) l U0 W') (fun l U0 x zb W o o' _ R hl ho => ⟨row_put o' R.1 hl ho, R.2.1, R.2.2.trans (KpZ.put _ _ _)⟩) ?assign2 ?body2 ?done2 (fun _ _ _ _ _ _ hIx _ => hIx.elim)
                  case assign2 =>
                    intro l pre x V K hl hI hK
                    have HK := Lib.hid hK
                    have HI := Lib.hid hI
                    have HR := Lib.hid (run_row V (L[x.val]'x.isLt))
                    have HST := Lib.hid (store_run V (L[x.val]'x.isLt))
                    have HW := Lib.hid ((Below.refl _ V).alloc (Nat.le_refl _) (.cells #[.int .i64 (L[x.val]'x.isLt).1, .int .i64 (L[x.val]'x.isLt).2.1, .int .u8 (L[x.val]'x.isLt).2.2] TRun))
                    clear hK hI hsq2
                    unfold runV at HST
                    simp only [runV]
                    gi_wp2_with (fail)
                    have h9 := HK.out V.heap.size _ ((KeepsOthers.alloc V _).from _) (HI.out.later HW.out) ⟨HR.out, HI.out.only.size, KpZ.of_below HW.out⟩
                    simpa [runV] using h9
                  case body2 =>
                    rintro l pre x zb U0 V hl hI ⟨hz, hzb, hk0⟩ hlen
                    obtain ⟨hxl, _⟩ := next_of_some hlen
                    have HK0 := Lib.hid hk0
                    have hpl : pre.length < L.length := by rw [← hxl]; exact x.isLt
                    obtain ⟨q1, hq1⟩ : ∃ q, L[pre.length]'hpl = q := ⟨_, rfl⟩
                    have hq2 : L[x.val]'x.isLt = q1 := by rw [← hq1]; exact getElem_congr_idx hxl
                    have hsz := hI.only.size
                    obtain ⟨y1, y2, y3⟩ := q1
                    rw [hq2] at hz
                    obtain ⟨gb, gc, eg, k0, k1, k2⟩ := ownR_at HR5.out pre.length hpl
                    rw [hq1] at k0 k1 k2
                    dsimp only at k0 k1 k2
                    have hgn : gb ≠ nb := fun e => HGN.out gb (by rw [eg]; rfl) e
                    have kV : ∀ o v, W5.cell? ⟨gb, o, none⟩ = some v → V.cell? ⟨gb, o, none⟩ = some v := fun o v h => hI.only.cell hgn h
                    have cm : V.cell? ⟨bx, 0, none⟩ = some (.slice (some ⟨gb, 0, none⟩) L.length gc) := by rw [← eg]; exact hI.only.cell (by have := HNB.out; omega) HBX5.out.cell
                    have Ln := Lib.hid (show ∀ U, U = V.drew → (loadVar 3 ⟨nb, 0, none⟩).run Try.prog U = .ok (.int .i64 pre.length) U from fun U hU => run_loadVar_cell (fun _ => by kernel_rfl) (by rw [hU]; exact hI.cn))
                    have Ll := Lib.hid (show ∀ U, U = V.drew → (loadVar TRs ⟨bx, 0, none⟩).run Try.prog U = .ok (.slice (some ⟨gb, 0, none⟩) L.length gc) U from fun U hU => run_loadVar_cell (fun _ => by kernel_rfl) (by rw [hU]; exact cm))
                    have Lz := Lib.hid (show ∀ U, U = V.drew → (loadVar TRun ⟨zb, 0, none⟩).run Try.prog U = .ok (.agg #[.int .i64 y1, .int .i64 y2, .int .u8 y3]) U from fun U hU => load_run (by rw [hU]; exact hz.cell 0 (by decide)) (by rw [hU]; exact hz.cell 1 (by decide)) (by rw [hU]; exact hz.cell 2 (by decide)))
                    have Lf := Lib.hid (show ∀ U, U = V.drew → (loadVar TRun ⟨gb, pre.length * 3, none⟩).run Try.prog U = .ok (.agg #[.int .i64 y1, .int .i64 y2, .int .u8 y3]) U from fun U hU => load_run (by rw [hU]; exact kV _ _ k0) (by rw [hU]; exact kV _ _ k1) (by rw [hU]; exact kV _ _ k2))
                    have hd0 : decide ((L.length : Int) ≤ (pre.length : Int)) = false := decide_eq_false (by omega)
                    have hd1 : decide (L.length ≤ pre.length) = false := decide_eq_false (by omega)
                    have hltI : (pre.length : Int) < (L.length : Int) := by omega
                    have hpb : pre.length ≤ 1024 := by have := HLNz.out; omega
                    have hblw := HNBL.out
                    clear k0 k1 k2 kV cm eg hgn
                    have HI := Lib.hid hI
                    have cn : V.drew.cell? ⟨nb, 0, none⟩ = some (.int .i64 pre.length) := HI.out.cn
                    have fn : V.drew.frozen? ⟨nb, 0, none⟩ = false := HI.out.fn
                    have HO := Lib.hid (show Only (fun k => k = nb) V (V.drew.setCell ⟨nb, 0, none⟩ (.int .i64 ((pre.length : Int) + 1))) from
                      (Only.of_below (Below.refl V.heap.size V).drew).trans (Only.setCell (S := fun k => k = nb) _ ⟨nb, 0, none⟩ rfl _))
                    have HS := Lib.hid (show CnAt W5 (nb) (pre ++ [x]) (V.drew.setCell ⟨nb, 0, none⟩ (.int .i64 ((pre.length : Int) + 1))) from
                      ⟨by
                        rw [World.cell?_setCell_same' _ _ _ (by rw [cn]; rfl), List.length_append]
                        rfl, by rw [World.frozen?_setCell]; exact fn, HI.out.only.trans HO.out⟩)
                    simp only [runV, hq2]
                    clear hsq2 hz hk0 hq1 hq2 hI hxl hlen
                    gi_wp2_with (fail)
                    go_simp
                    refine wpIn_region_lex1 (fun U => U = V.drew) [(0, false), (1, false), (2, false), (3, false), (4, false), (5, false), (6, false), (7, false), (8, false), (9, false), (10, false), (11, false)]
                      (by kernel_rfl) (by kernel_rfl) (by kernel_rfl) rfl (by kernel_rfl) rfl ?_
                    intro V0 hV0 hK0
                    clear hK0
                    subst hV0
                    refine lexH_load rfl rfl _ _ rfl rfl Ln.out ?_
                    simp only [List.getElem_toArray, List.getElem_cons_zero, Act.put, List.setIfInBounds_toArray, List.set_cons_zero, List.set_cons_succ]
                    refine lexH_load rfl rfl _ _ rfl rfl Ll.out ?_
                    simp only [List.getElem_toArray, List.getElem_cons_succ, List.getElem_cons_zero, Act.put, List.setIfInBounds_toArray, List.set_cons_zero, List.set_cons_succ]
                    refine lexH_yieldE rfl rfl ?_
                    apply Exists.intro
                    refine ⟨fun W hW => ?_, ?_⟩
                    focus (go_simp; exact rfl)
                    simp only [List.getElem_toArray, List.getElem_cons_succ, List.getElem_cons_zero, Act.put, List.setIfInBounds_toArray, List.set_cons_zero, List.set_cons_succ]
                    refine lexH_yieldE rfl rfl ?_
                    apply Exists.intro
                    refine ⟨fun W hW => ?_, ?_⟩
                    focus (go_simp; exact rfl)
                    simp only [List.getElem_toArray, List.getElem_cons_succ, List.getElem_cons_zero, Act.put, List.setIfInBounds_toArray, List.set_cons_zero, List.set_cons_succ]
                    refine lexH_yieldE rfl rfl ?_
                    apply Exists.intro
                    refine ⟨fun W hW => ?_, ?_⟩
                    focus (go_simp; exact rfl)
                    simp only [List.getElem_toArray, List.getElem_cons_succ, List.getElem_cons_zero, Act.put, List.setIfInBounds_toArray, List.set_cons_zero, List.set_cons_succ]
                    refine lexH_load rfl rfl _ _ rfl rfl Lz.out ?_
                    simp only [List.getElem_toArray, List.getElem_cons_succ, List.getElem_cons_zero, Act.put, List.setIfInBounds_toArray, List.set_cons_zero, List.set_cons_succ]
                    refine lexH_load rfl rfl _ _ rfl rfl Ll.out ?_
                    simp only [List.getElem_toArray, List.getElem_cons_succ, List.getElem_cons_zero, Act.put, List.setIfInBounds_toArray, List.set_cons_zero, List.set_cons_succ]
                    refine lexH_load rfl rfl _ _ rfl rfl Ln.out ?_
                    simp only [List.getElem_toArray, List.getElem_cons_succ, List.getElem_cons_zero, Act.put, List.setIfInBounds_toArray, List.set_cons_zero, List.set_cons_succ]
                    refine lexH_yieldE rfl rfl ?_
                    apply Exists.intro
                    refine ⟨fun W hW => ?_, ?_⟩
                    focus (go_simp; exact rfl)
                    simp only [List.getElem_toArray, List.getElem_cons_succ, List.getElem_cons_zero, Act.put, List.setIfInBounds_toArray, List.set_cons_zero, List.set_cons_succ]
                    refine lexH_load rfl rfl _ _ rfl rfl Lf.out ?_
                    simp only [List.getElem_toArray, List.getElem_cons_succ, List.getElem_cons_zero, Act.put, List.setIfInBounds_toArray, List.set_cons_zero, List.set_cons_succ]
                    refine lexH_yieldE rfl rfl ?_
                    apply Exists.intro
                    refine ⟨fun W hW => ?_, ?_⟩
                    focus (go_simp; exact rfl)
                    simp only [List.getElem_toArray, List.getElem_cons_succ, List.getElem_cons_zero, Act.put, List.setIfInBounds_toArray, List.set_cons_zero, List.set_cons_succ]
                    refine lexH_yieldE rfl rfl ?_
                    apply Exists.intro
                    refine ⟨fun W hW => ?_, ?_⟩
                    focus (go_simp; exact rfl)
                    simp only [List.getElem_toArray, List.getElem_cons_succ, List.getElem_cons_zero, Act.put, List.setIfInBounds_toArray, List.set_cons_zero, List.set_cons_succ]
                    refine lexI_nil ?_
                    clear Ln Lz Lf Ll hd0 hd1 hltI
                    gi_wp2_with (fail)
                    exact ⟨⟨HO.out.size, fun k o hB hk hc => (HO.out.block k (Array.getElem?_eq_some_iff.1 hk).1 (by omega)).trans hk⟩, HK0.out.trans (KpZ.of_only (HO.out.mono (fun k h => h))), HS.out⟩
                  case done2 =>
                    rintro D2 ys U hD2 hys hI hDk2
                    have hyl : ys.length = L.length := by
                      have := congrArg List.length hys
                      simpa using this
                    have hcn := hI.cn
                    rw [hyl] at hcn
                    have HBU := Lib.hid (hI.only.below HBW5.out HBW5.out.size (fun k hk => by have := HNB.out; omega))
                    have HRU := Lib.hid (HRW5.out.only hI.only (by have := HNB.out; omega))
                    have HDU := Lib.hid ((hI.only.block D HDL5.out.1 (by have := HDL5.out.2; omega)).trans HD5.out)
                    have HD2U := Lib.hid hDk2
                    have HDD := Lib.hid (show D2 ≠ D by have := HDL5.out.1; omega)
                    have HDW2 := Lib.hid (show w.heap.size + 2 < D2 from by have := HNB.out; have := HNB2.out; omega)
                    have cm : U.cell? ⟨bx, 0, none⟩ = some (.slice va L.length vc) := hI.only.cell (by have := HNB.out; omega) HBX5.out.cell
                    clear hsq2 hI hDk2 hys hyl
                    go_wp2_with (fail)
                    refine (known_any ok _).mono ?_
                    rintro e w9 ⟨rfl, hb9⟩
                    have HB9 := Lib.hid (HBU.out.trans (hb9.mono HBU.out.size))
                    have hrow := HRU.out.later hb9
                    have c9 := hrow.cell 0 (by decide)
                    have z9 := hrow.frozen 0
                    have HR9 := Lib.hid (hrow.setCell 0 (.bool true))
                    have HB9 := Lib.hid (HB9.out.setCell (p := ⟨w.heap.size + 2, 0, none⟩) (by show w.heap.size ≤ w.heap.size + 2; omega) (.bool true))
                    have HD9 := Lib.hid ((hb9.block D (Array.getElem?_eq_some_iff.1 HDU.out).1).trans HDU.out)
                    have HD29 := Lib.hid ((hb9.block D2 (Array.getElem?_eq_some_iff.1 HD2U.out).1).trans HD2U.out)
                    clear hb9 hrow hcn cm
                    go_wp2_with (fail)
                    have hDn : D ≠ w.heap.size + 2 := by have := HDW.out; omega
                    have hD2n : D2 ≠ w.heap.size + 2 := by have := HDW2.out; omega
                    refine leaves_many [D2, D] _ ?_ (fun E hE => ?_) (fun W' ho2 hs2 => ⟨.bool true, ?_, rfl, ?_⟩)
                    · simp only [List.nodup_cons, List.mem_singleton, List.not_mem_nil, not_false_eq_true, List.nodup_nil, and_true]
                      exact HDD.out
                    · rcases List.mem_cons.1 hE with rfl | hE
                      · rw [Below.heap_setCell _ _ _ _ hD2n]
                        exact HD29.out
                      · rw [List.mem_singleton] at hE
                        subst hE
                        rw [Below.heap_setCell _ _ _ _ hDn]
                        exact HD9.out
                    · have hc := ho2.cell (b := w.heap.size + 2) (o := 0) (v := .bool true) (fun h => by
                        rcases List.mem_cons.1 h with h | h
                        · exact hD2n h.symm
                        · exact hDn (List.mem_singleton.1 h).symm) (HR9.out.cell 0 (by decide))
                      simp [results, Try.f7, go_sem, hc]
                    · exact ho2.below HB9.out HB9.out.size (fun k hk => by
                        have h1 := HDW.out
                        have h2 := HDW2.out
                        rcases List.mem_cons.1 hk with h | h
                        · omega
                        · rw [List.mem_singleton] at h
                          omega)
              · have e4 : (mapE (mapA f pb cb rb) pa ca ra == 0) = false := beq_eq_false_iff_ne.2 hE4
                clear hE1 hE2 hE3 hE4 HPe
                generalize mapE (mapA f pb cb rb) pa ca ra = EE at *
                go_wp2_with (fail)
                refine (known_any ok _).mono ?_
                rintro e w9 ⟨rfl, hb9⟩
                have HB9 := Lib.hid (HBW.out.trans (hb9.mono HBW.out.size))
                have hrow := HRW.out.later hb9
                have c9 := hrow.cell 0 (by decide)
                have z9 := hrow.frozen 0
                have HR9 := Lib.hid (hrow.setCell 0 (.bool true))
                have HB9 := Lib.hid (HB9.out.setCell (p := ⟨w.heap.size + 2, 0, none⟩) (by show w.heap.size ≤ w.heap.size + 2; omega) (.bool true))
                clear hb9 hrow
                go_wp2_with (fail)
                refine ⟨.bool true, ?_, rfl, HB9.out⟩
                have hc := HR9.out.cell 0 (by decide)
                simp [results, Try.f7, go_sem, hc, updV]
            · have e3 : (mapE f pb cb rb == 0) = false := beq_eq_false_iff_ne.2 hE3
              clear hE1 hE2 hE3 HPe
              generalize mapE f pb cb rb = EE at *
              go_wp2_with (fail)
              refine (known_any ok _).mono ?_
              rintro e w9 ⟨rfl, hb9⟩
              have HB9 := Lib.hid (HBW.out.trans (hb9.mono HBW.out.size))
              have hrow := HRW.out.later hb9
              have c9 := hrow.cell 0 (by decide)
              have z9 := hrow.frozen 0
              have HR9 := Lib.hid (hrow.setCell 0 (.bool true))
              have HB9 := Lib.hid (HB9.out.setCell (p := ⟨w.heap.size + 2, 0, none⟩) (by show w.heap.size ≤ w.heap.size + 2; omega) (.bool true))
              clear hb9 hrow
              go_wp2_with (fail)
              refine ⟨.bool true, ?_, rfl, HB9.out⟩
              have hc := HR9.out.cell 0 (by decide)
              simp [results, Try.f7, go_sem, hc, updV]
          · have e2 : (mapE (mapA f pa ca ra) pb cb rb == 0) = false := beq_eq_false_iff_ne.2 hE2
            clear hE1 HPe
            generalize mapE (mapA f pa ca ra) pb cb rb = EE at *
            go_wp2_with (fail)
            refine (known_any ok _).mono ?_
            rintro e w9 ⟨rfl, hb9⟩
            have HB9 := Lib.hid (HBW.out.trans (hb9.mono HBW.out.size))
            have hrow := HRW.out.later hb9
            have c9 := hrow.cell 0 (by decide)
            have z9 := hrow.frozen 0
            have HR9 := Lib.hid (hrow.setCell 0 (.bool true))
            have HB9 := Lib.hid (HB9.out.setCell (p := ⟨w.heap.size + 2, 0, none⟩) (by show w.heap.size ≤ w.heap.size + 2; omega) (.bool true))
            clear hb9 hrow
            go_wp2_with (fail)
            refine ⟨.bool true, ?_, rfl, HB9.out⟩
            have hc := HR9.out.cell 0 (by decide)
            simp [results, Try.f7, go_sem, hc, updV]
        · have e1 : (mapE f pa ca ra == 0) = false := beq_eq_false_iff_ne.2 hE1
          clear HPe
          generalize mapE f pa ca ra = EE at *
          go_wp2_with (fail)
          refine (known_any ok _).mono ?_
          rintro e w9 ⟨rfl, hb9⟩
          have HB9 := Lib.hid (HBW.out.trans (hb9.mono HBW.out.size))
          have hrow := HRW.out.later hb9
          have c9 := hrow.cell 0 (by decide)
          have z9 := hrow.frozen 0
          have HR9 := Lib.hid (hrow.setCell 0 (.bool true))
          have HB9 := Lib.hid (HB9.out.setCell (p := ⟨w.heap.size + 2, 0, none⟩) (by show w.heap.size ≤ w.heap.size + 2; omega) (.bool true))
          clear hb9 hrow
          go_wp2_with (fail)
          refine ⟨.bool true, ?_, rfl, HB9.out⟩
          have hc := HR9.out.cell 0 (by decide)
          simp [results, Try.f7, go_sem, hc, updV]
  · have hlenI : 50 < (len : Int) := by omega
    have HRW := Lib.hid (HRC.out.later HP3.out.bel)
    have HBW := Lib.hid (HB1.out.trans (HP3.out.bel.mono HB1.out.size))
    clear HP3
    go_wp2_with (fail)
    refine (known_any ok _).mono ?_
    rintro e w9 ⟨rfl, hb9⟩
    have HB9 := Lib.hid (HBW.out.trans (hb9.mono HBW.out.size))
    have hrow := HRW.out.later hb9
    have c9 := hrow.cell 0 (by decide)
    have z9 := hrow.frozen 0
    have HR9 := Lib.hid (hrow.setCell 0 (.bool true))
    have HB9 := Lib.hid (HB9.out.setCell (p := ⟨w.heap.size + 2, 0, none⟩) (by show w.heap.size ≤ w.heap.size + 2; omega) (.bool true))
    clear hb9 hrow
    go_wp2_with (fail)
    refine ⟨.bool true, ?_, rfl, HB9.out⟩
    have hc := HR9.out.cell 0 (by decide)
    simp [results, Try.f7, go_sem, hc, updV]
theorem lawAEither_any (a : Option Addr) (len cap : Nat) (O : Nat → OpA) (ka pa ca : Int) (ra : Nat) (kb pb cb : Int) (rb : Nat) (ha8 : Okp pa ra) (hb8 : Okp pb rb) (w : World) (hO : OpsAt w a len O) :
    Calls Try.prog 7 #[.slice a len cap, .agg #[.int .i64 ka, .int .i64 pa, .int .i64 ca, .int .u8 ra], .agg #[.int .i64 kb, .int .i64 pb, .int .i64 cb, .int .u8 rb]] w fun e w' => e = .returned (.bool true) ∧ Below w.heap.size w w' :=
  callsIn_wide.1 (lawAEither_in ok 8 (Nat.le_refl _) a len cap O ka pa ca ra kb pb cb rb ha8 hb8 w hO)
end
end Go.Proofs.Ythnkbipdlepbaaa
