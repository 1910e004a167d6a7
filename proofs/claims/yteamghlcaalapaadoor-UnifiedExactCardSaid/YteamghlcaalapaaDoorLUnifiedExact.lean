/-
  The statement 'UnifiedExact' of this seat holds: for every input within the form's reach the law returns true and its arguments read as they did. No further condition.
-/
import Derived.Test.YteamghlcaalapaaDoorUnB
import Derived.Test.YteamghlcaalapaaDoorUnG
import Derived.Test.YteamghlcaalapaaDoorRows
import Derived.WalkKit
import Derived.ProofKit
import Derived.OpenShut
import Derived.ShutString
import Derived.ChangeOld
import Derived.Below
import Derived.SizedLaws
import Derived.Test.YteamghlcaalapaaDoorCards
import Derived.Test.YteamghlcaalapaaDoorTie
import Derived.LaidMore
import Derived.SevenTiedAt
namespace Go.Proofs.YteamghlcaalapaaDoor
open Go.RowKit
set_option maxRecDepth 4000

set_option maxRecDepth 100000 in
set_option maxHeartbeats 4000000 in
theorem exact_walk (pt : Option Addr) (t : List ByteArray) (ct : Nat) (p : Option Addr) (hs : List Tp.H) (cap : Nat) (reach : Int) (w : World) (ht : Sts w pt t) (hct : pt = none → ct = 0) (_hlt : t.length ≤ 8796093021952) (hlc : t.length ≤ ct)
    (hp : Ptc w p hs) (_hc : p = none → cap = 0) (hl : hs.length ≤ 2513169434845) (_hlc : hs.length ≤ cap) (_hf : ∀ k ∈ hs, fits63 k.at') (_wr : (Lit.int .i64 reach).wf = true) :
    Calls Tryd.prog 6 #[.slice pt t.length ct, .agg #[.slice p hs.length cap], .int .i64 reach] w (TPost w) := by
  have b0 := up_alloc (Below.refl w.heap.size w) (.cells #[.slice p hs.length cap] 25 (0, 0))
  have P0 := Lib.hid (hp.mono b0)
  have T0 := Lib.hid (ht.mono b0)
  have O0 := Lib.hid (One.new w (.slice p hs.length cap) 25 w.heap.size rfl)
  have B0 := Lib.hid b0
  have HC := Lib.hid hct
  have HL := Lib.hid hlc
  clear hp ht b0 hct hlc _hf _hlc _hc _hlt _wr
  go_enter Tryd.func6, Tryd.ntmps6
  go_wp2_with fail
  refine (tpApply_any p pt hs t _ cap _ ct _ rfl rfl P0.out hl T0.out HC.out HL.out).mono ?_
  rintro e w1 ⟨vs, rfl, own1, hb1⟩
  have a1 := up_alloc (Below.refl w1.heap.size w1) (.cells #[.int .i64 (Tp.aC hs t), .int .i64 (Tp.aI hs t)] 27 (0, 0))
  obtain ⟨ps, cs, rfl, -, -⟩ := ownS_shape own1
  have B1 := Lib.hid (up_call (up_call B0.out hb1) a1)
  have P1 := Lib.hid ((P0.out.mono hb1).mono a1)
  have T1 := Lib.hid ((T0.out.mono hb1).mono a1)
  have O1 := Lib.hid ((O0.out.up hb1).up a1)
  have F1 := Lib.hid (Flt.new w1 (Tp.aC hs t) (Tp.aI hs t) 27)
  have W1 := Lib.hid (ownS_up own1 a1)
  have oc1 := O1.out.c
  clear own1 hb1 a1 B0 P0 T0 O0
  go_wp2_with fail
  refine (fuzzy_any p pt hs t cap ct reach _ P1.out hl T1.out HC.out HL.out).mono ?_
  rintro e w2 ⟨vt, vo, rfl, own2, own3, hb2⟩
  have a2 := up_alloc (Below.refl w2.heap.size w2) (.cells #[.int .i64 (Tp.zC t hs reach), .int .i64 (Tp.zI t hs reach)] 27 (0, 0))
  obtain ⟨pt2, ct2, rfl, -, -⟩ := ownS_shape own2
  obtain ⟨po, co, rfl, -, -, -, -⟩ := row_of_own own3
  have B2 := Lib.hid (up_call (up_call B1.out hb2) a2)
  have O2 := Lib.hid ((O1.out.up hb2).up a2)
  have F2 := Lib.hid ((F1.out.up hb2).up a2)
  have G2 := Lib.hid (Flt.new w2 (Tp.zC t hs reach) (Tp.zI t hs reach) 27)
  have W2 := Lib.hid (ownS_up (ownS_up W1.out hb2) a2)
  have V2 := Lib.hid (ownS_up own2 a2)
  have I2 := Lib.hid (own3.up a2)
  have oc2 := O2.out.c
  have f0 := F2.out.c0
  have g0 := G2.out.c0
  clear own2 own3 hb2 a2 B1 P1 T1 O1 F1 W1 oc1
  by_cases ha : Tp.aC hs t = 0
  · rw [ha] at f0
    have k0 : ((0 : Int) != 0) = false := by decide
    by_cases hr : reach < 0 ∨ 120 < reach
    · by_cases h0 : reach < 0
      · have k1 : decide (reach < 0) = true := decide_eq_true h0
        clear hr h0
        go_wp2_with fail
        refine (shown_any _).mono ?_
        rintro e w5 ⟨rfl, hb5⟩
        have B5 := Lib.hid (up_call B2.out hb5)
        clear hb5 B2
        go_wp2_with fail
        go_ret
        exact ⟨rfl, B5.out⟩
      · have k1 : decide (reach < 0) = false := decide_eq_false h0
        have k2 : decide (120 < reach) = true := decide_eq_true (by omega)
        clear hr h0
        go_wp2_with fail
        refine (shown_any _).mono ?_
        rintro e w5 ⟨rfl, hb5⟩
        have B5 := Lib.hid (up_call B2.out hb5)
        clear hb5 B2
        go_wp2_with fail
        go_ret
        exact ⟨rfl, B5.out⟩
    · obtain ⟨z1, z2, z3⟩ := Tp.z_exact ha hr
      have k1 : decide (reach < 0) = false := decide_eq_false (by omega)
      have k2 : decide (120 < reach) = false := decide_eq_false (by omega)
      have ok := Tp.aC_zero.1 ha
      have ea : Tp.aT hs t = Tp.ap t 0 hs := if_pos ha
      have sm := Tp.ap_small ok.vp ok.vt 0 0
      rw [List.drop_zero] at sm
      have la := ok.len
      have hl1 := ok.vp.len
      rw [z1] at B2 O2 F2 G2 W2 V2 I2 oc2 f0 g0 ⊢
      rw [z2, ea] at V2
      rw [z3] at I2
      rw [ea] at W2
      rw [z2, z3, ea]
      obtain ⟨A, hA⟩ : ∃ A, A = Tp.ap t 0 hs := ⟨_, rfl⟩
      rw [← hA] at W2 V2 sm la ⊢
      have SA := Lib.hid (ownS_sts W2.out sm (by omega))
      have SB := Lib.hid (ownS_sts V2.out sm (by omega))
      have hd : (hs.map fun _ => (0 : Int)).length = hs.length := List.length_map _
      obtain ⟨po', co', ei, hrow, -, -, -⟩ := row_of_own I2.out
      simp only [Value.slice.injEq] at ei
      obtain ⟨rfl, -, rfl⟩ := ei
      have RI := Lib.hid hrow
      rw [hd]
      clear ha hr ok ea sm hA z1 z2 z3 hd hrow W2 V2 I2 F2 G2
      have k3 : ((0 : Int) != 0) = false := by decide
      go_wp2_with fail
      refine (equal_any ps pt2 A A _ _ cs ct2 _ rfl rfl SA.out SB.out).mono ?_
      rintro e w4 ⟨rfl, nq, hw4⟩
      rw [eqS_true rfl]
      have B4 : Hid (Below w.heap.size w w4) := Lib.hid (by rw [hw4]; exact below_drewN B2.out _)
      have oc4 : w4.cell? ⟨w.heap.size, 0, none⟩ = some (.slice p hs.length cap) := by rw [hw4]; exact oc2
      have R4 : Hid (Row intE w4 po (hs.map fun _ => (0 : Int))) := Lib.hid (by rw [hw4]; exact RI.out.drewN _)
      clear hw4 oc2 B2 SA SB RI f0 g0 O2
      go_wp2_with fail
      go_loopw [12] (fun i wr => ∃ k : Nat, k ≤ hs.length ∧ i = .int .i64 k ∧ w4 = wr) (fun i _ => hs.length - (intOf i).toNat)
      case atStart => exact ⟨0, Nat.zero_le _, rfl, rfl⟩
      case round =>
        obtain ⟨k, hk, rfl, rfl⟩ := hrel
        have b0 : (0 : Int) ≤ (k : Int) := by omega
        by_cases hlt : k < hs.length
        · have g1 : decide (k < hs.length) = true := by simpa using hlt
          have b1 : (k : Int) < (hs.length : Int) := by omega
          obtain ⟨b, off, rfl, hbb, hc⟩ := R4.out.cell (i := k) (by rw [List.length_map]; exact hlt)
          have c0 : w4.cell? ⟨b, off + k, none⟩ = some (.int .i64 0) := by
            have := hc 0 (.int .i64 0) (by simp [intE])
            rw [show intE.size = 1 from rfl, Nat.mul_one, Nat.add_zero] at this
            exact this
          clear hc
          go_wp2_with fail
          go_roundw
          case rel => exact ⟨k + 1, hlt, by go_num, trivial⟩
          case measure => first | (simp [intOf]; done) | (simp [intOf]; omega)
        · have g1 : decide (k < hs.length) = false := by simpa using hlt
          go_wp2_with fail
          refine (shown_any _).mono ?_
          rintro e w5 ⟨rfl, hb5⟩
          have B5 := Lib.hid (up_call B4.out hb5)
          clear hb5 B4
          go_wp2_with fail
          go_ret
          exact ⟨rfl, B5.out⟩
  · have hne : (Tp.aC hs t != 0) = true := by simpa using ha
    clear ha
    go_wp2_with fail
    refine (shown_any _).mono ?_
    rintro e w5 ⟨rfl, hb5⟩
    have B5 := Lib.hid (up_call B2.out hb5)
    clear hb5 B2
    go_wp2_with fail
    go_ret
    exact ⟨rfl, B5.out⟩
end Go.Proofs.YteamghlcaalapaaDoor
namespace Go.Proofs.YteamghlcaalapaaDoor.lawUnifiedExact
open Go.ChangeShapes Go.WideShapes Go.ChangeAt Go.RowKit
open Go.ChangeMaps (open_string shut_string)
set_option linter.unusedVariables false

theorem own : ownKnob Tryd.prog.godebug = none := by kernel_rfl
theorem laidOut : laidOutB Tryd.prog = true := by kernel_rfl
theorem door_met (os : Os) (args : Array Value) : laidMetH Tryd.prog Rows.unifiedExactRow.laid ((World.doorLaid Tryd.prog 400 os).forCall (fun _ _ => 0) ⟨#[], args, []⟩).memory :=
  laidMetH_of_parts3 (fuel := 8) (laidMet_of_run' 8 (by kernel_rfl) (by kernel_rfl)) (by kernel_rfl) (by kernel_rfl)
set_option maxRecDepth 100000 in
theorem lifted (os : Os) (started : os.Started) (H : Type) (enc : TypeId × Value → H) :
    ReturnsInHanded {} Tryd.checked os 6 .any (fun w args => (Rows.unifiedExactSpec.pre enc Tryd.prog Tryd.f6 [] false w args ∧ laidMetH Tryd.prog Rows.unifiedExactRow.laid w) ∧ sizedMet enc Tryd.prog Tryd.f6 (OpenSpec.ofChange Rows.unifiedExactSpec) false w args) (Rows.unifiedExactSpec.post enc Tryd.prog Tryd.f6 false true false false) := by
  refine returnsInHanded_of_change_and (C := Tryd.checked) (X := fun w _ => laidMetH Tryd.prog Rows.unifiedExactRow.laid w) (fun _ _ _ hh h => h.of_heap hh) own started (by kernel_rfl) Tryd.func6
    (ChangeSpec.witness_shaped (enc := enc) (C := Tryd.checked) (os := os) (X := fun w _ => laidMetH Tryd.prog Rows.unifiedExactRow.laid w) false (World.doorLaid Tryd.prog 400 os) #[.slice none 0 0, .agg #[.slice none 0 0], .int .i64 0] 8 rfl (World.shaped_of_RefB (by kernel_rfl) (by kernel_rfl)) (by kernel_rfl) (by kernel_rfl) (by kernel_rfl) (door_met os _)) ?_
  intro W base args ds gs before hval0 hW hcnd hsz0 hL _
  have hval : ∀ (j : Nat) t v, Tryd.f6.params[j]? = some t → args[j]? = some v → Value.okWide Tryd.prog W .any base t v := hval0
  have hW' := hW
  obtain ⟨p, q, hA0, hV, rfl, hfz, hnd⟩ := hW
  have hA : DataW.TrodAll enc Tryd.prog W 0 (fun _ => true) true Tryd.f6.params.toList args.toList ds p := hA0
  have hsz : ∀ (j : Nat) t d, Tryd.f6.params[j]? = some t → ds[j]? = some d → (d.weights Tryd.prog t).all (· ≤ 140737488351232) = true := by
    intro j t d ht hd
    refine List.all_eq_true.2 fun x hx => List.all_eq_true.1 hsz0 x (DataW.weights_mem_each (j := j) ?_ ?_ x hx)
    · rw [List.getElem?_append_left (by have := (Array.getElem?_eq_some_iff.1 ht).1; simpa using this)]; simpa using ht
    · rw [List.getElem?_append_left (List.getElem?_eq_some_iff.1 hd).1]; exact hd
  rw [Tryd.params6] at hA hval hsz
  obtain ⟨v0, vs0, d0, ds0, p0, q0, hargs, rfl, rfl, h0, r0⟩ := trodAll_cons hA
  obtain ⟨v1, vs1, d1, ds1, p1, q1, rfl, rfl, rfl, h1, r1⟩ := trodAll_cons r0
  obtain ⟨v2, vs2, d2, ds2, p2, q2, rfl, rfl, rfl, h2, r2⟩ := trodAll_cons r1
  obtain ⟨rfl, rfl, rfl⟩ := trodAll_nil r2
  obtain rfl : args = #[v0, v1, v2] := by cases args; simp_all
  obtain ⟨rfl, rfl⟩ := trodVars_none hV
  have k0 := h0
  have lt0 : ∀ x ∈ p0, x.block < W.heap.size := by obtain ⟨m, hm⟩ := k0; exact DataW.trod_lt m _ _ _ hm
  obtain ⟨p0', l0, c0, rfl, b0, n0, z0, y0⟩ := sts_open Tryd.underlying22 Tryd.underlying9 (by kernel_rfl) (by kernel_rfl) (by obtain ⟨a, b, c, hh⟩ := okWide_slice Tryd.underlying22 (hval 0 22 v0 rfl rfl); exact ⟨a, b, c, hh⟩) h0.choose_spec (hsz 0 22 d0 rfl rfl)
  have k1 := h1
  have lt1 : ∀ x ∈ p1, x.block < W.heap.size := by obtain ⟨m, hm⟩ := k1; exact DataW.trod_lt m _ _ _ hm
  obtain ⟨p1', l1, c1, rfl, b1, n1, z1, y1, f1⟩ := ptc_open (okWide_struct Tryd.underlying25 (hval 1 25 v1 rfl rfl)) h1.choose_spec (hsz 1 25 d1 rfl rfl)
  obtain ⟨a2, rfl, rfl, rfl, w2⟩ := open_int Tryd.underlying3 (hval 2 3 v2 rfl rfl) h2
  clear hA0 hval0 hsz hsz0
  refine (exact_walk p0' l0 c0 p1' l1 c1 a2 W b0 n0 z0 y0 b1 n1 z1 y1 f1 w2).mono fun e W' ⟨he, bel⟩ => ?_
  subst he
  exact ⟨_, rfl, _, _, _, [], _, [], hW', trodAll_mk1 (shut_bool Tryd.underlying4 _), (trodAll_cons_mk (Below.trod laidOut (by kernel_rfl) (of_decide_eq_true (by kernel_rfl)) k0 bel lt0) (trodAll_cons_mk (Below.trod laidOut (by kernel_rfl) (of_decide_eq_true (by kernel_rfl)) k1 bel lt1) (trodAll_cons_mk (shut_int Tryd.underlying3 w2) trodAll_mk0))), rfl, bel.frame _, fun h => by cases h⟩

theorem over : Rows.unifiedExactRow.holds Tryd.pinned (OpenSpec.ofChange Rows.unifiedExactSpec) :=
  OpenClaim.holds_of_wide 6 Tryd.f6 rfl rfl rfl rfl rfl rfl rfl ⟨rfl, rfl, rfl, rfl, rfl⟩ rfl rfl rfl rfl rfl (by kernel_rfl) Tryd.func6 (by kernel_rfl)
    (of_decide_eq_true (by kernel_rfl)) (by unfold Func.isWrapper; first | (rw [if_pos (by decide +kernel)]; kernel_rfl) | (rw [if_neg (by decide +kernel)]; exact ⟨rfl, rfl⟩))
    (fun os started H enc _ => lifted os started H enc)

theorem proved : Rows.UnifiedExactCardSaid :=
  Claim7.holds_tied_plain_at .later [] [.data, .data, .data] true (true, "76022676f7bec5c95092ade5bc30a4a70eb17a8b652efefb4cac29eb9e3a65e3") true over (fun _ h => by cases h) (by kernel_rfl) (fun _ h => by cases h) unifiedExact_row_tie rfl ⟨rfl, rfl⟩ (by kernel_rfl) rfl
    (fun f fn hf hfn => by
      obtain rfl : f = 6 := Option.some.inj ((show Tryd.prog.funcNamed "changeforge/changeforgelaw1.UnifiedExact" = some 6 by kernel_rfl).symm.trans hf) |>.symm
      obtain rfl : fn = Tryd.f6 := (Option.some.inj (Tryd.func6.symm.trans hfn)).symm
      exact ⟨by kernel_rfl, fun j t ht => by
        rw [Tryd.params6] at ht
        have hm : t ∈ [22, 25, 3] := by simpa using Array.mem_of_getElem? ht
        have hall : ([22, 25, 3].all fun u => !Tryd.prog.wantsStandIn u) = true := by kernel_rfl
        exact (show Tryd.prog.wantsStandIn t = false by simpa using List.all_eq_true.1 hall t hm)⟩)
    (by kernel_rfl)
end Go.Proofs.YteamghlcaalapaaDoor.lawUnifiedExact
