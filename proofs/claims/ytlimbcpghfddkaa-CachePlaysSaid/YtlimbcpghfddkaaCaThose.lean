/-
  cache: those; Frames, Empty of the landed one.
-/
import Derived.Test.YtlimbcpghfddkaaCaAsk
namespace Go.Proofs.Ytlimbcpghfddkaa
open Go.RowKit Go Go.Maps

section
variable {w W : World} {K : KC} {A : Ca} {r : Nat} {f : Pl → Bool} {acc : List Int} {left : Int → Bool} {v : Value} {W' : World}
/-- A number more is told. -/
structure ThMid (w : World) (K : KC) (A : Ca) (r : Nat) (f : Pl → Bool) (acc : List Int) (left : Int → Bool) (x : Int) (v : Value) (W : World) : Prop where
  at_ : CaAt W K A
  rng : FRange Try.prog 3 elemPtr W K.m r (mapS K.g A.L) (strike left x)
  own : W.ownsRow (r + 1) 3 1 v acc.length (intV acc)
  bel : Below w.heap.size w W
  r1 : w.heap.size = r
  rl : r + 1 ≤ W.heap.size
  nd : acc.Nodup
  mem : ∀ x, x ∈ acc ↔ left x = false ∧ x ∈ frsL f A.L
  lx : left x = true
theorem ThMid.later {x : Int} (T : ThMid w K A r f acc left x v W) (h : Below W.heap.size W W') : ThMid w K A r f acc left x v W' :=
  ⟨T.at_.later h, (T.rng.later h).1, owns_later T.own h, T.bel.trans (h.mono T.bel.size), T.r1, Nat.le_trans T.rl h.size, T.nd, T.mem, T.lx⟩
theorem ThAt.step (T : ThAt w K A r f acc left v W) {x : Int} (hr : FRange Try.prog 3 elemPtr W' K.m r (mapS K.g A.L) (strike left x)) (ho : Only (fun k => k = r) W W') (hlt : ∀ k, K.all A.L k → k < w.heap.size) (hx : left x = true) : ThMid w K A r f acc left x v W' := by
  have h1 := T.r1
  have h2 := T.rl
  exact ⟨T.at_.only ho (fun k hk e => by have := hlt k hk; omega), hr, owns_only T.own ho (fun k hk e => by have := (T.own.lt k hk).1; omega), ho.below T.bel T.bel.size (fun k hk => by omega), T.r1, Nat.le_trans T.rl ho.size, T.nd, T.mem, hx⟩
theorem ThMid.pass {x : Int} (T : ThMid w K A r f acc left x v W) (hx : x ∉ frsL f A.L) : ThAt w K A r f acc (strike left x) v W :=
  ⟨T.at_, T.rng, T.own, T.bel, T.r1, T.rl, T.nd, fun y => by
    rw [T.mem y]
    unfold strike
    constructor
    · rintro ⟨h, h3⟩
      exact ⟨by rw [h]; rfl, h3⟩
    · rintro ⟨h, h3⟩
      refine ⟨?_, h3⟩
      by_cases e : y = x
      · subst e
        exact absurd h3 hx
      · simpa [e] using h⟩
theorem ThMid.rleft {x : Int} (T : ThMid w K A r f acc left x v W) (hlt : ∀ k, K.all A.L k → k < w.heap.size) (ho : Only (fun q => v.ownBlock = some q) W W') : W'.rangeLeft K.m r = W.rangeLeft K.m r := by
  have h1 := T.r1
  have hb : ∀ q, v.ownBlock = some q → r + 1 ≤ q := fun q h => (T.own.lt q h).1
  refine (T.rng.only ho (fun h => ?_) (fun h => ?_)).2
  · have := hb _ h
    have := hlt _ (.inl (.inr rfl))
    omega
  · have := hb _ h
    omega
theorem ThMid.few {x : Int} (T : ThMid w K A r f acc left x v W) : acc.length ≤ A.L.length :=
  Nat.le_trans (nodup_le acc (frsL f A.L) T.nd (fun x hx => ((T.mem x).1 hx).2)) (frsL_len f A.L)
theorem ThMid.told {x : Int} {v' : Value} (T : ThMid w K A r f acc left x v W) (hx : x ∈ frsL f A.L) (hlt : ∀ k, K.all A.L k → k < w.heap.size) (hown : W'.ownsRow (r + 1) 3 1 v' (acc.length + 1) (intV acc ++ (#[Value.int .i64 x] : Array Value).toList)) (ho : Only (fun q => v.ownBlock = some q) W W') :
    ThAt w K A r f (acc ++ [x]) (strike left x) v' W' := by
  have h1 := T.r1
  have hb : ∀ q, v.ownBlock = some q → r + 1 ≤ q := fun q h => (T.own.lt q h).1
  have hni : x ∉ acc := fun h => by
    have := ((T.mem x).1 h).1
    rw [T.lx] at this
    cases this
  refine ⟨T.at_.only ho (fun q hq h => ?_), (T.rng.only ho (fun h => ?_) (fun h => ?_)).1, ?_, ho.below T.bel T.bel.size (fun q h => by have := hb q h; omega), T.r1, Nat.le_trans T.rl ho.size, ?_, fun y => ?_⟩
  · have := hb q h
    have := hlt q hq
    omega
  · have := hb _ h
    have := hlt _ (.inl (.inr rfl))
    omega
  · have := hb _ h
    omega
  · rw [intV_snoc, List.length_append]
    exact hown
  · rw [List.nodup_append]
    exact ⟨T.nd, List.pairwise_singleton _ _, fun a ha b hb e => hni (by rw [List.mem_singleton.1 hb] at e; rw [← e]; exact ha)⟩
  · rw [List.mem_append, List.mem_singleton, T.mem y]
    unfold strike
    constructor
    · rintro (⟨h, h3⟩ | h)
      · exact ⟨by rw [h]; rfl, h3⟩
      · subst h
        exact ⟨by simp, hx⟩
    · rintro ⟨h, h3⟩
      by_cases e : y = x
      · exact .inr e
      · exact .inl ⟨by simpa [e] using h, h3⟩
theorem ThAt.done (T : ThAt w K A r f acc left v W) (hd : ∀ x, left x = false) : acc.mergeSort (fun x y => decide (x ≤ y)) = frsL f A.L :=
  sorted_eq T.nd (frsL_rise T.at_.inv.rise) fun x => by
    rw [T.mem x]
    exact ⟨fun h => h.2, fun h => ⟨hd x, h⟩⟩
/-- A key of the map is a slab's frame. -/
theorem CaAt.key (R : CaAt w K A) {x : Int} {c : Option Nat} (h : mapS K.g A.L x = some c) : ∃ S, (⟨x, S⟩ : Pl) ∈ A.L ∧ c = some (K.g x).s ∧ SlAt w (K.g x) S := by
  unfold mapS at h
  cases hf : findL A.L x with
  | none =>
    rw [hf] at h
    cases h
  | some S =>
    rw [hf] at h
    injection h with h
    have hm := findL_mem hf
    exact ⟨S, hm, h.symm, R.fam.at_ _ hm⟩
theorem frsL_key (hr : Rise A.L) {x : Int} {S : Sl} (h : (⟨x, S⟩ : Pl) ∈ A.L) : x ∈ frsL f A.L ↔ f ⟨x, S⟩ = true := by
  rw [mem_frsL]
  constructor
  · rintro ⟨p, hp, hf, e⟩
    have h1 := findL_of hr hp
    have h2 := findL_of hr h
    rw [e] at h1
    rw [h1] at h2
    injection h2 with h2
    have : p = ⟨x, S⟩ := by
      cases p
      dsimp only at e h2
      rw [e, h2]
    rw [← this]
    exact hf
  · exact fun hf => ⟨_, h, hf, rfl⟩
set_option maxRecDepth 100000 in
set_option maxHeartbeats 8000000 in
theorem those_any (R : CaAt w K A) (hl : A.L.length ≤ 1000) (F : FuncId) (hE : ∀ args W, (callFunc F args).run Try.prog W = .ok (.enter F args) W) (hA : AskS F f) :
    Calls Try.prog 40 #[.pointer (some ⟨K.c, 0, none⟩), .func (.func F) #[] #[]] w (DFrames w (frsL f A.L)) := by
  obtain ⟨i0, hi, hz0, hz1, hz2⟩ := info_parts intInfoC
  have c2 := R.c2
  have HLT := Lib.hid R.lt
  have HA := Lib.hid hA
  have hM := R.map
  have HR := Lib.hid R
  clear R hA
  go_enter Try.func40, Try.ntmps40
  go_wp2_with (first | (at_range; refine wpList_range_fmap rfl _ _ rfl 3 41 Try.underlying3 Try.underlying57 elemPtr K.m (mapS K.g A.L) rfl hM ?_; intro w6 hR hB6 hs6) | fail)
  try go_frame
  obtain ⟨r, hr⟩ : ∃ r, w.heap.size = r := ⟨_, rfl⟩
  rw [hr] at hR hs6
  have HT0 := Lib.hid (show ThAt w K A w.heap.size f [] (fun x => (mapS K.g A.L x).isSome) (.slice none 0 0) w6 from by
    rw [hr]
    refine ⟨HR.out.later hB6, hR, World.ownsRow_nil _ _ _ _, hB6, hr, by omega, List.nodup_nil, fun x => ?_⟩
    constructor
    · intro h
      cases h
    · rintro ⟨h1, h2⟩
      obtain ⟨p, hp, _, e⟩ := mem_frsL.1 h2
      have h3 : findL A.L x = some p.S := by rw [← e]; exact findL_of HR.out.inv.rise hp
      have h4 : (mapS K.g A.L x).isSome = true := by unfold mapS; rw [h3]; rfl
      rw [h4] at h1
      cases h1)
  rw [hr] at HT0 ⊢
  clear c2 hM hR hB6 hs6 hr HR
  go_loopw [5] (fun v wr => ∃ (acc : List Int) (left : Int → Bool) (u : Value), v = u ∧ Hid (ThAt w K A r f acc left u wr)) (fun _ v => v.rangeLeft K.m r)
  case atStart => exact ⟨_, _, _, rfl, HT0⟩
  case round =>
    clear HT0
    obtain ⟨acc, left, u, rfl, HT⟩ := hrel
    go_wp2_with (first | (at_next; refine wpList_next_frange rfl _ rfl 3 Try.underlying3 elemPtr K.m r (mapS K.g A.L) left rfl HT.out.rng (fun hdone => ?_) (fun x c w6 hwx hleft hfx hR6 hlt6 hO6 hs6 hen => ?_)) | fail)
    · have HS := Lib.hid (sort_any HT.out.own (Nat.le_trans HT.out.few hl))
      rw [HT.out.done hdone] at HS
      clear hdone
      go_wp2_with (fail)
      refine HS.out.mono ?_
      rintro e w7 ⟨rfl, h1, h2⟩
      have HF := Lib.hid (show DFrames w (frsL f A.L) (.returned u5) w7 from by
        have hlen : acc.length = (frsL f A.L).length := by
          have h := h1.1
          unfold intV at h
          rw [List.length_map] at h
          omega
        rw [hlen] at h1
        have hr1 := HT.out.r1
        exact ⟨u5, rfl, owns_base h1 (fun k hk => by have := (h1.lt k hk).1; omega), h2.below HT.out.bel HT.out.bel.size (fun k hk => by have := (HT.out.own.lt k hk).1; omega)⟩)
      clear h1 h2 HS HT
      go_wp2_with (fail)
      go_ret
      exact HF.out
    · have HM := Lib.hid (HT.out.step hR6 hO6 HLT.out hleft)
      obtain ⟨S, hm, rfl, hS⟩ := HM.out.at_.key hfx
      have HQ := Lib.hid (HA.out w6 (K.g x) ⟨x, S⟩ hS)
      have HLF := Lib.hid hlt6
      have HRL : Hid (∀ W2 : World, Below w6.heap.size w6 W2 → W2.rangeLeft K.m r = w6.rangeLeft K.m r) := Lib.hid fun W2 hb => (hR6.later hb).2
      have HKY := Lib.hid (frsL_key (f := f) HM.out.at_.inv.rise hm)
      have HEN := Lib.hid hen
      rw [show elemPtr.v (some (K.g x).s) = .pointer (some ⟨(K.g x).s, 0, none⟩) from rfl] at hen ⊢
      clear hfx hR6 hlt6 hO6 hs6 hS HT hleft hm
      by_cases hp : f ⟨x, S⟩ = true
      · rw [hp] at HQ
        have HX := Lib.hid (HKY.out.2 hp)
        clear hp HKY
        obtain ⟨ua, uc, hu, _⟩ := owns_slice HM.out.own
        subst hu
        go_wp2_with (first | (go_at_fn F; refine HQ.out.mono ?_; rintro e w7 ⟨rfl, hb⟩; have HM7 := Lib.hid (HM.out.later hb); have HL7 := Lib.hid (HRL.out w7 hb); have HOW := Lib.hid HM7.out.own; have HLE := Lib.hid HM7.out.rl; have hfew := HM7.out.few; clear hb HM HRL HQ) | (at_builtin; refine wpList_append_one w7 rfl _ _ 52 rfl (r + 1) 3 i0 _ 1 8 Try.underlying52 hi hz0 hz1 hz2 rfl (by decide) _ _ _ #[.int .i64 x] HOW.out HLE.out rfl rfl rfl (one_cell _ _) (by omega) (by decide) ?_; intro v3 w3 hown3 ho3 _; have HT3 := Lib.hid (HM7.out.told HX.out HLT.out hown3 ho3); have HL3 := Lib.hid (HM7.out.rleft HLT.out ho3); clear hown3 ho3 HOW HLE HM7) | fail)
        exact ⟨⟨_, _, _, rfl, HT3⟩, by rw [HL3.out, HL7.out]; exact HLF.out⟩
      · have hpf : f ⟨x, S⟩ = false := by simpa using hp
        rw [hpf] at HQ
        have HX := Lib.hid (fun h => hp (HKY.out.1 h))
        clear hp HKY hpf
        go_wp2_with (first | (go_at_fn F; refine HQ.out.mono ?_; rintro e w7 ⟨rfl, hb⟩) | fail)
        exact ⟨⟨_, _, _, rfl, Lib.hid ((HM.out.later hb).pass HX.out)⟩, by rw [HRL.out w7 hb]; exact HLF.out⟩
end
end Go.Proofs.Ytlimbcpghfddkaa
