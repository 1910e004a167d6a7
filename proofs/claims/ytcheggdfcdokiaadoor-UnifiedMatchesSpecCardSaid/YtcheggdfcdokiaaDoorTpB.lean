
/-
  The reference's PatchFault, walked.
-/
import Derived.Test.YtcheggdfcdokiaaDoorTpA
import Derived.IntWalk
namespace Go.Proofs.YtcheggdfcdokiaaDoor
open Go.RowKit
set_option maxRecDepth 4000

/-- a block that holds a hunk -/
structure Hu (w : World) (g : Nat) (z : Int) (o n : Value) : Prop where
  c0 : w.cell? ⟨g, 0, none⟩ = some (.int .i64 z)
  c1 : w.cell? ⟨g, 1, none⟩ = some o
  c2 : w.cell? ⟨g, 2, none⟩ = some n
  lt : g < w.heap.size
theorem Hu.new (w : World) (z : Int) (o n : Value) (t : TypeId) : Hu (w.alloc (.cells #[.int .i64 z, o, n] t (0, 0))) w.heap.size z o n := by
  refine ⟨?_, ?_, ?_, by rw [World.size_alloc]; omega⟩ <;> (rw [World.cell?_alloc_mark]; rfl)
theorem Hu.up {w w' : World} {g : Nat} {z : Int} {o n : Value} (h : Hu w g z o n) (hb : Below w.heap.size w w') : Hu w' g z o n := by
  have hl := h.lt
  exact ⟨by rw [hb.cell (p := ⟨g, 0, none⟩) hl, h.c0], by rw [hb.cell (p := ⟨g, 1, none⟩) hl, h.c1], by rw [hb.cell (p := ⟨g, 2, none⟩) hl, h.c2], Nat.lt_of_lt_of_le hl hb.size⟩
/-- the end of the hunk ahead of k -/
def pvE (hs : List Tp.H) (k : Nat) : Int := if h : 0 < k ∧ k - 1 < hs.length then Tp.en (hs[k - 1]'h.2) else -1
theorem pvE_zero (hs : List Tp.H) : pvE hs 0 = -1 := by unfold pvE; rw [dif_neg (by omega)]
theorem pvE_succ (hs : List Tp.H) (k : Nat) (h : k < hs.length) : pvE hs (k + 1) = Tp.en hs[k] := by unfold pvE; rw [dif_pos ⟨by omega, by omega⟩]; rfl
theorem pf_next (hs : List Tp.H) (k : Nat) (h : k < hs.length) : Tp.pf (hs.drop k) k (pvE hs k) = if Tp.hC (pvE hs k) hs[k] = 0 then Tp.pf (hs.drop (k + 1)) (k + 1) (pvE hs (k + 1)) else (Tp.hC (pvE hs k) hs[k], (k : Int)) := by
  rw [List.drop_eq_getElem_cons h, pvE_succ hs k h]; rfl
/-- how the hunk's fault is found -/
theorem hC_at {prev : Int} {h : Tp.H} (e : h.at' < 0 ∨ 120 < h.at') : Tp.hC prev h = 3 := if_pos e
theorem hC_old {prev : Int} {h : Tp.H} (e : ¬ (h.at' < 0 ∨ 120 < h.at')) (e1 : Lin.vC h.old ≠ 0) : Tp.hC prev h = Lin.vC h.old := by unfold Tp.hC; rw [if_neg e, if_pos e1]
theorem hC_new {prev : Int} {h : Tp.H} (e : ¬ (h.at' < 0 ∨ 120 < h.at')) (e1 : Lin.vC h.old = 0) (e2 : Lin.vC h.new ≠ 0) : Tp.hC prev h = Lin.vC h.new := by unfold Tp.hC; rw [if_neg e, if_neg (by simp [e1]), if_pos e2]
theorem hC_mal {prev : Int} {h : Tp.H} (e : ¬ (h.at' < 0 ∨ 120 < h.at')) (e1 : Lin.vC h.old = 0) (e2 : Lin.vC h.new = 0) (e3 : h.old.length + h.new.length = 0 ∨ h.at' ≤ prev) : Tp.hC prev h = 5 := by unfold Tp.hC; rw [if_neg e, if_neg (by simp [e1]), if_neg (by simp [e2]), if_pos e3]
theorem hC_end {prev : Int} {h : Tp.H} (e : ¬ (h.at' < 0 ∨ 120 < h.at')) (e1 : Lin.vC h.old = 0) (e2 : Lin.vC h.new = 0) (e3 : ¬ (h.old.length + h.new.length = 0 ∨ h.at' ≤ prev)) (e4 : 120 < Tp.en h) : Tp.hC prev h = 3 := by unfold Tp.hC; rw [if_neg e, if_neg (by simp [e1]), if_neg (by simp [e2]), if_neg e3, if_pos e4]
theorem hC_ok {prev : Int} {h : Tp.H} (e : ¬ (h.at' < 0 ∨ 120 < h.at')) (e1 : Lin.vC h.old = 0) (e2 : Lin.vC h.new = 0) (e3 : ¬ (h.old.length + h.new.length = 0 ∨ h.at' ≤ prev)) (e4 : ¬ 120 < Tp.en h) : Tp.hC prev h = 0 := by unfold Tp.hC; rw [if_neg e, if_neg (by simp [e1]), if_neg (by simp [e2]), if_neg e3, if_neg e4]

set_option maxRecDepth 100000 in
set_option maxHeartbeats 8000000 in
theorem refPatchFault_any (p : Option Addr) (hs : List Tp.H) (n cap : Nat) (w : World) (hn : n = hs.length) (hp : Ptc w p hs) (hl : hs.length ≤ 2513169434845) :
    Calls Tryd.prog 27 #[.agg #[.slice p n cap]] w (BPost (.agg #[.int .i64 (Tp.pC hs), .int .i64 (Tp.pI hs)]) w) := by
  subst hn
  have HP := Lib.hid hp
  clear hp
  have B0 : Below w.heap.size w ((w.alloc (.cells #[.slice p hs.length cap] 25 (0, 0))).alloc (.cells #[.int .i64 0, .int .i64 0] 27 (0, 0))) := up_alloc (up_alloc (Below.refl _ _) _) _
  have BX := Lib.hid B0
  have O1 : Hid (One ((w.alloc (.cells #[.slice p hs.length cap] 25 (0, 0))).alloc (.cells #[.int .i64 0, .int .i64 0] 27 (0, 0))) w.heap.size (.slice p hs.length cap)) := Lib.hid ((One.new w (.slice p hs.length cap) 25 w.heap.size rfl).alloc _)
  have F1 : Hid (Flt ((w.alloc (.cells #[.slice p hs.length cap] 25 (0, 0))).alloc (.cells #[.int .i64 0, .int .i64 0] 27 (0, 0))) (w.heap.size + 1) 0 0) := by
    have := Flt.new (w.alloc (.cells #[.slice p hs.length cap] 25 (0, 0))) 0 0 27
    rwa [World.size_alloc] at this
  by_cases h1 : 130 < hs.length
  · have E : Hid (Tp.pC hs = 2 ∧ Tp.pI hs = -1) := Lib.hid ⟨if_pos h1, if_pos h1⟩
    have g0 : decide ((130 : Int) < (hs.length : Int)) = true := by rw [decide_eq_true_iff]; omega
    clear h1
    go_enter Tryd.func27, Tryd.ntmps27
    go_wp2_with fail
    refine (at_any _ _ _).mono ?_
    rintro e w1 ⟨rfl, hb1⟩
    obtain ⟨d0, d1, -, -, -⟩ := (F1.out.up hb1).set2 2 (-1)
    obtain ⟨a0, a1, a2, a3, a4⟩ := F1.out.up hb1
    go_wp2_with fail
    refine bodyPost_ret (v := .agg #[.int .i64 2, .int .i64 (-1)]) (by simp [results, Tryd.results27, go_sem, d0, d1]) rfl ⟨by rw [E.out.1, E.out.2], ?_⟩
    exact ((up_call BX.out hb1).setCell (by first | omega | (dsimp only; omega)) _).setCell (by first | omega | (dsimp only; omega)) _
  · have E : Hid (Tp.pC hs = (Tp.pf hs 0 (-1)).1 ∧ Tp.pI hs = (Tp.pf hs 0 (-1)).2) := Lib.hid ⟨if_neg h1, if_neg h1⟩
    have g0 : decide ((130 : Int) < (hs.length : Int)) = false := by rw [decide_eq_false_iff_not]; omega
    have h1' : hs.length ≤ 130 := by omega
    clear h1
    go_enter Tryd.func27, Tryd.ntmps27
    go_wp2_with fail
    go_loopw [3] (fun i wr => ∃ k : Nat, k ≤ hs.length ∧ i = .int .i64 k ∧ Hid (Tp.pf (hs.drop k) k (pvE hs k) = Tp.pf hs 0 (-1)) ∧ Hid (Below w.heap.size w wr) ∧ Hid (One wr w.heap.size (.slice p hs.length cap)) ∧ Hid (Flt wr (w.heap.size + 1) 0 0) ∧ Hid (0 < k → pvE hs k ≤ 120 ∧ ∃ h : k - 1 < hs.length, 0 ≤ (hs[k - 1]).at' ∧ (hs[k - 1]).at' ≤ 120 ∧ (hs[k - 1]).old.length ≤ 120)) (fun i _ => hs.length - (intOf i).toNat)
    case atStart => exact ⟨0, Nat.zero_le _, rfl, Lib.hid (by rw [pvE_zero]; rfl), BX, O1, F1, Lib.hid (fun h => by omega)⟩
    case round =>
      clear O1 F1 BX B0
      obtain ⟨k, hk, rfl, ht, hB, hO, hF, hV⟩ := hrel
      have hOc := hO.out.c
      have b0 : (0 : Int) ≤ (k : Int) := by omega
      have hzr := hB.out.size
      by_cases hlt : k < hs.length
      · have g1 : decide (k < hs.length) = true := by simpa using hlt
        have b1 : (k : Int) < (hs.length : Int) := by omega
        obtain ⟨b, off, rfl, hbb, ⟨o1, o2, o3⟩, ⟨n1, n2, n3⟩, c0, c1, c2, r1, r2⟩ := (HP.out.mono hB.out).cell hlt
        have pn := pf_next hs k hlt
        have ps := pvE_succ hs k hlt
        rw [ht.out] at pn
        obtain ⟨⟨z, ol, nl⟩, hx⟩ : ∃ x, x = hs[k] := ⟨_, rfl⟩
        rw [← hx] at c0 r1 r2 pn ps
        obtain ⟨q1, e1, -, -⟩ := r1
        obtain ⟨q2, e2, -, -⟩ := r2
        dsimp only at e1 e2 q1 q2 c0
        subst e1 e2
        simp only [sv] at c1 c2
        have Q1 := Lib.hid q1
        have Q2 := Lib.hid q2
        have FAIL : Hid (∀ c, c ≠ 0 → Tp.hC (pvE hs k) ⟨z, ol, nl⟩ = c → Tp.pf hs 0 (-1) = (c, (k : Int))) := Lib.hid (fun c hc e => by rw [pn, e, if_neg hc])
        have NEXT : Hid (Tp.hC (pvE hs k) ⟨z, ol, nl⟩ = 0 → Tp.pf (hs.drop (k + 1)) (k + 1) (pvE hs (k + 1)) = Tp.pf hs 0 (-1)) := Lib.hid (fun e => by rw [pn, if_pos e])
        have PS := Lib.hid ps
        have HX := Lib.hid hx
        have F1 := Lib.hid (hF.out.alloc (.cells #[.int .i64 z, .slice o1 ol.length o3, .slice n1 nl.length n3] 46 (0, 0)))
        have O1 := Lib.hid (hO.out.alloc (.cells #[.int .i64 z, .slice o1 ol.length o3, .slice n1 nl.length n3] 46 (0, 0)))
        have U1 := Lib.hid (Hu.new wr z (.slice o1 ol.length o3) (.slice n1 nl.length n3) 46)
        have v1 := up_alloc hB.out (.cells #[.int .i64 z, .slice o1 ol.length o3, .slice n1 nl.length n3] 46 (0, 0))
        clear pn ps hx q1 q2 ht
        by_cases hz0 : z < 0
        · have gz : decide (z < 0) = true := by simpa using hz0
          have R := Lib.hid (FAIL.out 3 (by decide) (hC_at (.inl hz0)))
          go_wp2_with fail
          refine (at_any _ _ _).mono ?_
          rintro e wF ⟨rfl, hbF⟩
          obtain ⟨d0, d1, -, -, -⟩ := ((F1.out).up hbF).set2 (3) (k : Int)
          obtain ⟨a0, a1, a2, a3, a4⟩ := (F1.out).up hbF
          have uF := up_call (v1) hbF
          clear FAIL NEXT
          go_wp2_with fail
          refine bodyPost_ret (v := .agg #[.int .i64 (3), .int .i64 (k : Int)]) (by simp [results, Tryd.results27, go_sem, d0, d1]) rfl ⟨by rw [E.out.1, E.out.2, R.out], ?_⟩
          exact (uF.setCell (by first | omega | (dsimp only; omega)) _).setCell (by first | omega | (dsimp only; omega)) _
        · have gz : decide (z < 0) = false := by simpa using hz0
          by_cases hz1 : 120 < z
          · have gz1 : decide (120 < z) = true := by simpa using hz1
            have R := Lib.hid (FAIL.out 3 (by decide) (hC_at (.inr hz1)))
            go_wp2_with fail
            refine (at_any _ _ _).mono ?_
            rintro e wF ⟨rfl, hbF⟩
            obtain ⟨d0, d1, -, -, -⟩ := ((F1.out).up hbF).set2 (3) (k : Int)
            obtain ⟨a0, a1, a2, a3, a4⟩ := (F1.out).up hbF
            have uF := up_call (v1) hbF
            clear FAIL NEXT
            go_wp2_with fail
            refine bodyPost_ret (v := .agg #[.int .i64 (3), .int .i64 (k : Int)]) (by simp [results, Tryd.results27, go_sem, d0, d1]) rfl ⟨by rw [E.out.1, E.out.2, R.out], ?_⟩
            exact (uF.setCell (by first | omega | (dsimp only; omega)) _).setCell (by first | omega | (dsimp only; omega)) _
          · have gz1 : decide (120 < z) = false := by simpa using hz1
            have hz : ¬ (z < 0 ∨ 120 < z) := by omega
            have HZ := Lib.hid hz
            clear hz
            go_wp2_with fail
            refine (linesCode_any o1 ol _ _ _ rfl (Q1.out.mono (up_alloc (Below.refl _ _) _))).mono ?_
            rintro e w1 ⟨rfl, hb1⟩
            have u1 := up_call v1 hb1
            have F2 := Lib.hid (F1.out.up hb1)
            have O2 := Lib.hid (O1.out.up hb1)
            have U2 := Lib.hid (U1.out.up hb1)
            have Q2' := Lib.hid ((Q2.out.mono (up_alloc (Below.refl _ _) (.cells #[.int .i64 z, .slice o1 ol.length o3, .slice n1 nl.length n3] 46 (0, 0)))).mono hb1)
            clear hb1 F1 O1 U1
            by_cases ho : Lin.vC ol = 0
            · have HO := Lib.hid ho
              have lo := (Lin.vC_zero ho).1
              rw [ho]
              clear ho
              obtain ⟨y0, y1, y2, y3⟩ := U2.out
              go_wp2_with fail
              refine (linesCode_any n1 nl _ _ _ rfl Q2'.out).mono ?_
              rintro e w2 ⟨rfl, hb2⟩
              have u2 := up_call u1 hb2
              have F3 := Lib.hid (F2.out.up hb2)
              have O3 := Lib.hid (O2.out.up hb2)
              have U3 := Lib.hid (U2.out.up hb2)
              clear hb2 F2 O2 U2 y0 y1 y2 y3 u1 v1 Q2'
              obtain ⟨y0, y1, y2, y3⟩ := U3.out
              by_cases hnw : Lin.vC nl = 0
              · have HN := Lib.hid hnw
                have ln := (Lin.vC_zero hnw).1
                rw [hnw]
                clear hnw
                have ws : IntKind.i64.wrap ((ol.length : Int) + (nl.length : Int)) = (ol.length : Int) + (nl.length : Int) := IntWalk.i64_in _ (by omega)
                have we : IntKind.i64.wrap (z + (ol.length : Int)) = z + (ol.length : Int) := IntWalk.i64_in _ (by omega)
                by_cases hsum : ol.length + nl.length = 0
                · have gs : ((ol.length : Int) + (nl.length : Int) == 0) = true := by rw [beq_iff_eq]; omega
                  go_wp2_with fail
                  go_quiet (fail)
                  have R := Lib.hid (FAIL.out 5 (by decide) (hC_mal HZ.out HO.out HN.out (.inl hsum)))
                  go_wp2_with fail
                  refine (at_any _ _ _).mono ?_
                  rintro e wF ⟨rfl, hbF⟩
                  obtain ⟨d0, d1, -, -, -⟩ := ((F3.out.drewN nq).up hbF).set2 (5) (k : Int)
                  obtain ⟨a0, a1, a2, a3, a4⟩ := (F3.out.drewN nq).up hbF
                  have uF := up_call (below_drewN u2 nq) hbF
                  clear FAIL NEXT
                  go_wp2_with fail
                  refine bodyPost_ret (v := .agg #[.int .i64 (5), .int .i64 (k : Int)]) (by simp [results, Tryd.results27, go_sem, d0, d1]) rfl ⟨by rw [E.out.1, E.out.2, R.out], ?_⟩
                  exact (uF.setCell (by first | omega | (dsimp only; omega)) _).setCell (by first | omega | (dsimp only; omega)) _
                · have gs : ((ol.length : Int) + (nl.length : Int) == 0) = false := by rw [beq_eq_false_iff_ne]; omega
                  have hz0' : 0 ≤ z := by omega
                  have hz1' : z ≤ 120 := by omega
                  clear HZ gz gz1
                  have HZ : Hid (¬ (z < 0 ∨ 120 < z)) := Lib.hid (by omega)
                  by_cases hk0 : k = 0
                  · have gk : decide ((0 : Int) < (k : Int)) = false := by rw [decide_eq_false_iff_not]; omega
                    have gk' : decide (0 < k) = false := by rw [decide_eq_false_iff_not]; omega
                    have PV : Hid (pvE hs k = -1) := Lib.hid (by rw [hk0]; exact pvE_zero hs)
                    clear hk0
                    go_wp2_with fail
                    go_quiet (fail)
                    have NE : Hid (¬ (ol.length + nl.length = 0 ∨ z ≤ pvE hs k)) := Lib.hid (by rw [PV.out]; omega)
                    obtain ⟨y0, y1, y2, y3⟩ := (Hu.mk (w := w2.drewN nq) y0 y1 y2 y3)
                    go_wp2_with fail
                    refine (refEnd_any z o1 n1 ol.length o3 nl.length n3 _ hz0' (by omega) (by omega)).mono ?_
                    rintro e w4 ⟨rfl, hb4⟩
                    have u4 := up_call (below_drewN u2 nq) hb4
                    have F4 := Lib.hid ((F3.out.drewN nq).up hb4)
                    have O4 := Lib.hid ((O3.out.drewN nq).up hb4)
                    by_cases hen : 120 < z + (ol.length : Int)
                    · have ge : decide (120 < z + (ol.length : Int)) = true := by simpa using hen
                      have R := Lib.hid (FAIL.out 3 (by decide) (hC_end HZ.out HO.out HN.out NE.out hen))
                      go_wp2_with fail
                      refine (at_any _ _ _).mono ?_
                      rintro e wF ⟨rfl, hbF⟩
                      obtain ⟨d0, d1, -, -, -⟩ := ((F4.out).up hbF).set2 (3) (k : Int)
                      obtain ⟨a0, a1, a2, a3, a4⟩ := (F4.out).up hbF
                      have uF := up_call (u4) hbF
                      clear FAIL NEXT
                      go_wp2_with fail
                      refine bodyPost_ret (v := .agg #[.int .i64 (3), .int .i64 (k : Int)]) (by simp [results, Tryd.results27, go_sem, d0, d1]) rfl ⟨by rw [E.out.1, E.out.2, R.out], ?_⟩
                      exact (uF.setCell (by first | omega | (dsimp only; omega)) _).setCell (by first | omega | (dsimp only; omega)) _
                    · have ge : decide (120 < z + (ol.length : Int)) = false := by simpa using hen
                      have NX := Lib.hid (NEXT.out (hC_ok HZ.out HO.out HN.out NE.out hen))
                      have NV : Hid (0 < k + 1 → pvE hs (k + 1) ≤ 120 ∧ ∃ h : k + 1 - 1 < hs.length, 0 ≤ (hs[k + 1 - 1]).at' ∧ (hs[k + 1 - 1]).at' ≤ 120 ∧ (hs[k + 1 - 1]).old.length ≤ 120) := Lib.hid (fun _ => by
                        have hx' := HX.out
                        refine ⟨by rw [PS.out]; unfold Tp.en; simp only; omega, hlt, ?_⟩
                        simp only [Nat.add_sub_cancel, ← hx']
                        exact ⟨hz0', hz1', lo⟩)
                      clear FAIL NEXT hen
                      go_wp2_with fail
                      go_roundw
                      case rel => exact ⟨k + 1, hlt, by go_num, NX, Lib.hid u4, O4, F4, NV⟩
                      case measure => first | (simp [intOf]; done) | (simp [intOf]; omega)
                  · have gk : decide ((0 : Int) < (k : Int)) = true := by rw [decide_eq_true_iff]; omega
                    have gk' : decide (0 < k) = true := by rw [decide_eq_true_iff]; omega
                    have hk1 : k - 1 < hs.length := by omega
                    obtain ⟨b', off', eb, hbb', ⟨l1, l2, l3⟩, ⟨m1, m2, m3⟩, p0, p1, p2, r1, r2⟩ := (HP.out.mono u2).cell hk1
                    cases eb
                    obtain ⟨-, k2, k3, k4, k5⟩ := hV.out (by omega)
                    have PV : pvE hs k = Tp.en hs[k - 1] := by unfold pvE; rw [dif_pos ⟨by omega, hk1⟩]
                    obtain ⟨⟨z', ol', nl'⟩, hx'⟩ : ∃ x, x = hs[k - 1] := ⟨_, rfl⟩
                    rw [← hx'] at p0 r1 r2 k3 k4 k5 PV
                    obtain ⟨q1', e1', -, -⟩ := r1
                    dsimp only at e1' p0 k3 k4 k5
                    subst e1'
                    simp only [sv] at p1 p2
                    have PV2 : pvE hs k = z' + (ol'.length : Int) := PV
                    have PV3 := Lib.hid PV2
                    have wk : IntKind.i64.wrap ((k : Int) - 1) = (k : Int) - 1 := IntWalk.i64_in _ (by omega)
                    have wk1 : (0 : Int) ≤ (k : Int) - 1 := by omega
                    have wk2 : (k : Int) - 1 < (hs.length : Int) := by omega
                    have wk3 : ((k : Int) - 1).toNat = k - 1 := by omega
                    have wk4 : (1 : Int) ≤ (k : Int) := by omega
                    have wk5 : 1 ≤ k := by omega
                    have wk6 : (k : Int) ≤ (hs.length : Int) := by omega
                    have wk7 : 0 < k := by omega
                    have O3c := O3.out.c
                    have W0 := World.new_ne w2 _ y0
                    clear hx' PV PV2 q1' r2 hV
                    by_cases hle : z ≤ z' + (ol'.length : Int)
                    · have gle : decide (z ≤ z' + (ol'.length : Int)) = true := by simpa using hle
                      go_wp2_with fail
                      go_region_held3 (fun w' => w'.cell? ⟨wr.heap.size, 0, none⟩ = some (.int .i64 z) ∧ w'.cell? ⟨wr.heap.size, 1, none⟩ = some (.slice o1 ol.length o3) ∧ w'.cell? ⟨wr.heap.size, 2, none⟩ = some (.slice n1 nl.length n3) ∧ w'.cell? ⟨w.heap.size, 0, none⟩ = some (.slice (some ⟨b, off, none⟩) hs.length cap) ∧
                          w'.cell? ⟨b, off + (k - 1) * 3, none⟩ = some (.int .i64 z') ∧ w'.cell? ⟨b, off + (k - 1) * 3 + 1, none⟩ = some (.slice l1 ol'.length l3) ∧ w'.cell? ⟨b, off + (k - 1) * 3 + 2, none⟩ = some (.slice m1 m2 m3)) (go_keep)
                        (first
                          | (go_at_call 22
                             refine (refEnd_any z' l1 m1 ol'.length l3 m2 m3 _ k3 (by omega) (by omega)).mono ?_
                             rintro e w3 ⟨rfl, hb3⟩
                             have B3 := Lib.hid ((Below.refl w2.heap.size w2).drew.trans hb3)
                             have y0' := (B3.out.cell (p := ⟨wr.heap.size, 0, none⟩) y3).trans y0
                             have y1' := (B3.out.cell (p := ⟨wr.heap.size, 1, none⟩) y3).trans y1
                             have y2' := (B3.out.cell (p := ⟨wr.heap.size, 2, none⟩) y3).trans y2
                             have oc' := (B3.out.cell (p := ⟨w.heap.size, 0, none⟩) O3.out.lt).trans O3c
                             have p0' := (B3.out.cell (p := ⟨b, off + (k - 1) * 3, none⟩) hbb').trans p0
                             have p1' := (B3.out.cell (p := ⟨b, off + (k - 1) * 3 + 1, none⟩) hbb').trans p1
                             have p2' := (B3.out.cell (p := ⟨b, off + (k - 1) * 3 + 2, none⟩) hbb').trans p2
                             clear hb3))
                      have R := Lib.hid (FAIL.out 5 (by decide) (hC_mal HZ.out HO.out HN.out (.inr (by rw [PV3.out]; exact hle))))
                      go_wp2_with fail
                      refine (at_any _ _ _).mono ?_
                      rintro e wF ⟨rfl, hbF⟩
                      obtain ⟨d0, d1, -, -, -⟩ := ((F3.out.up B3.out).up hbF).set2 (5) (k : Int)
                      obtain ⟨a0, a1, a2, a3, a4⟩ := (F3.out.up B3.out).up hbF
                      have uF := up_call (up_call u2 B3.out) hbF
                      clear FAIL NEXT
                      go_wp2_with fail
                      refine bodyPost_ret (v := .agg #[.int .i64 (5), .int .i64 (k : Int)]) (by simp [results, Tryd.results27, go_sem, d0, d1]) rfl ⟨by rw [E.out.1, E.out.2, R.out], ?_⟩
                      exact (uF.setCell (by first | omega | (dsimp only; omega)) _).setCell (by first | omega | (dsimp only; omega)) _
                    · have gle : decide (z ≤ z' + (ol'.length : Int)) = false := by simpa using hle
                      go_wp2_with fail
                      go_region_held3 (fun w' => w'.cell? ⟨wr.heap.size, 0, none⟩ = some (.int .i64 z) ∧ w'.cell? ⟨wr.heap.size, 1, none⟩ = some (.slice o1 ol.length o3) ∧ w'.cell? ⟨wr.heap.size, 2, none⟩ = some (.slice n1 nl.length n3) ∧ w'.cell? ⟨w.heap.size, 0, none⟩ = some (.slice (some ⟨b, off, none⟩) hs.length cap) ∧
                          w'.cell? ⟨b, off + (k - 1) * 3, none⟩ = some (.int .i64 z') ∧ w'.cell? ⟨b, off + (k - 1) * 3 + 1, none⟩ = some (.slice l1 ol'.length l3) ∧ w'.cell? ⟨b, off + (k - 1) * 3 + 2, none⟩ = some (.slice m1 m2 m3)) (go_keep)
                        (first
                          | (go_at_call 22
                             refine (refEnd_any z' l1 m1 ol'.length l3 m2 m3 _ k3 (by omega) (by omega)).mono ?_
                             rintro e w3 ⟨rfl, hb3⟩
                             have B3 := Lib.hid ((Below.refl w2.heap.size w2).drew.trans hb3)
                             have y0' := (B3.out.cell (p := ⟨wr.heap.size, 0, none⟩) y3).trans y0
                             have y1' := (B3.out.cell (p := ⟨wr.heap.size, 1, none⟩) y3).trans y1
                             have y2' := (B3.out.cell (p := ⟨wr.heap.size, 2, none⟩) y3).trans y2
                             have oc' := (B3.out.cell (p := ⟨w.heap.size, 0, none⟩) O3.out.lt).trans O3c
                             have p0' := (B3.out.cell (p := ⟨b, off + (k - 1) * 3, none⟩) hbb').trans p0
                             have p1' := (B3.out.cell (p := ⟨b, off + (k - 1) * 3 + 1, none⟩) hbb').trans p1
                             have p2' := (B3.out.cell (p := ⟨b, off + (k - 1) * 3 + 2, none⟩) hbb').trans p2
                             clear hb3))
                      have NE : Hid (¬ (ol.length + nl.length = 0 ∨ z ≤ pvE hs k)) := Lib.hid (by rw [PV3.out]; omega)
                      obtain ⟨y0, y1, y2, y3⟩ := (U3.out.up B3.out)
                      go_wp2_with fail
                      refine (refEnd_any z o1 n1 ol.length o3 nl.length n3 _ hz0' (by omega) (by omega)).mono ?_
                      rintro e w4 ⟨rfl, hb4⟩
                      have u4 := up_call (up_call u2 B3.out) hb4
                      have F4 := Lib.hid ((F3.out.up B3.out).up hb4)
                      have O4 := Lib.hid ((O3.out.up B3.out).up hb4)
                      by_cases hen : 120 < z + (ol.length : Int)
                      · have ge : decide (120 < z + (ol.length : Int)) = true := by simpa using hen
                        have R := Lib.hid (FAIL.out 3 (by decide) (hC_end HZ.out HO.out HN.out NE.out hen))
                        go_wp2_with fail
                        refine (at_any _ _ _).mono ?_
                        rintro e wF ⟨rfl, hbF⟩
                        obtain ⟨d0, d1, -, -, -⟩ := ((F4.out).up hbF).set2 (3) (k : Int)
                        obtain ⟨a0, a1, a2, a3, a4⟩ := (F4.out).up hbF
                        have uF := up_call (u4) hbF
                        clear FAIL NEXT
                        go_wp2_with fail
                        refine bodyPost_ret (v := .agg #[.int .i64 (3), .int .i64 (k : Int)]) (by simp [results, Tryd.results27, go_sem, d0, d1]) rfl ⟨by rw [E.out.1, E.out.2, R.out], ?_⟩
                        exact (uF.setCell (by first | omega | (dsimp only; omega)) _).setCell (by first | omega | (dsimp only; omega)) _
                      · have ge : decide (120 < z + (ol.length : Int)) = false := by simpa using hen
                        have NX := Lib.hid (NEXT.out (hC_ok HZ.out HO.out HN.out NE.out hen))
                        have NV : Hid (0 < k + 1 → pvE hs (k + 1) ≤ 120 ∧ ∃ h : k + 1 - 1 < hs.length, 0 ≤ (hs[k + 1 - 1]).at' ∧ (hs[k + 1 - 1]).at' ≤ 120 ∧ (hs[k + 1 - 1]).old.length ≤ 120) := Lib.hid (fun _ => by
                          have hx' := HX.out
                          refine ⟨by rw [PS.out]; unfold Tp.en; simp only; omega, hlt, ?_⟩
                          simp only [Nat.add_sub_cancel, ← hx']
                          exact ⟨hz0', hz1', lo⟩)
                        clear FAIL NEXT hen
                        go_wp2_with fail
                        go_roundw
                        case rel => exact ⟨k + 1, hlt, by go_num, NX, Lib.hid u4, O4, F4, NV⟩
                        case measure => first | (simp [intOf]; done) | (simp [intOf]; omega)
              · have gn : (Lin.vC nl != 0) = true := by simpa using hnw
                have R := Lib.hid (FAIL.out _ hnw (hC_new HZ.out HO.out hnw))
                go_wp2_with fail
                refine (at_any _ _ _).mono ?_
                rintro e wF ⟨rfl, hbF⟩
                obtain ⟨d0, d1, -, -, -⟩ := ((F3.out).up hbF).set2 (Lin.vC nl) (k : Int)
                obtain ⟨a0, a1, a2, a3, a4⟩ := (F3.out).up hbF
                have uF := up_call (u2) hbF
                clear FAIL NEXT
                go_wp2_with fail
                refine bodyPost_ret (v := .agg #[.int .i64 (Lin.vC nl), .int .i64 (k : Int)]) (by simp [results, Tryd.results27, go_sem, d0, d1]) rfl ⟨by rw [E.out.1, E.out.2, R.out], ?_⟩
                exact (uF.setCell (by first | omega | (dsimp only; omega)) _).setCell (by first | omega | (dsimp only; omega)) _
            · have go1 : (Lin.vC ol != 0) = true := by simpa using ho
              have R := Lib.hid (FAIL.out _ ho (hC_old HZ.out ho))
              go_wp2_with fail
              refine (at_any _ _ _).mono ?_
              rintro e wF ⟨rfl, hbF⟩
              obtain ⟨d0, d1, -, -, -⟩ := ((F2.out).up hbF).set2 (Lin.vC ol) (k : Int)
              obtain ⟨a0, a1, a2, a3, a4⟩ := (F2.out).up hbF
              have uF := up_call (u1) hbF
              clear FAIL NEXT
              go_wp2_with fail
              refine bodyPost_ret (v := .agg #[.int .i64 (Lin.vC ol), .int .i64 (k : Int)]) (by simp [results, Tryd.results27, go_sem, d0, d1]) rfl ⟨by rw [E.out.1, E.out.2, R.out], ?_⟩
              exact (uF.setCell (by first | omega | (dsimp only; omega)) _).setCell (by first | omega | (dsimp only; omega)) _
      · have g1 : decide (k < hs.length) = false := by simpa using hlt
        have R : Hid (Tp.pf hs 0 (-1) = (0, 0)) := Lib.hid (by rw [← ht.out, List.drop_eq_nil_of_le (by omega)]; rfl)
        obtain ⟨d0, d1, -, -, -⟩ := hF.out.set2 0 0
        obtain ⟨a0, a1, a2, a3, a4⟩ := hF.out
        go_wp2_with fail
        refine bodyPost_ret (v := .agg #[.int .i64 0, .int .i64 0]) (by simp [results, Tryd.results27, go_sem, d0, d1]) rfl ⟨by rw [E.out.1, E.out.2, R.out], ?_⟩
        exact (hB.out.setCell (by first | omega | (dsimp only; omega)) _).setCell (by first | omega | (dsimp only; omega)) _
end Go.Proofs.YtcheggdfcdokiaaDoor
