
/-
  The reference's Format, walked.
-/
import Derived.Test.YtcheggdfcdokiaaDoorUnO
import Derived.Test.YtcheggdfcdokiaaDoorTpD
import Derived.Deep.CutRange
import Derived.Deep.CutBlock
namespace Go.Proofs.YtcheggdfcdokiaaDoor
open Go.RowKit
set_option maxRecDepth 4000
set_option maxRecDepth 4000

theorem ln_str (X : List UInt8) (c : UInt8) (s : ByteArray) : Lin.mk X ++ ⟨#[c]⟩ ++ s ++ ⟨#[10]⟩ = Lin.mk (X ++ lnB c s) := by
  have e1 : (⟨#[c]⟩ : ByteArray) = Lin.mk [c] := rfl
  have e2 : (⟨#[10]⟩ : ByteArray) = Lin.mk [10] := rfl
  rw [e1, e2, ← Lin.mk_of s, mk_app, mk_app, mk_app]
  unfold lnB
  rw [Lin.mk_data]
  congr 1
  simp
theorem end_arith {lo hi o f : Nat} {g gx gn : Int} (h1 : hi = lo + o) (h2 : (f : Int) = o + gn - g) (h3 : g + gx = gn) (h4 : 0 ≤ (lo : Int) + g) (h5 : (hi : Int) + (g + gx) < (1000 : Nat)) (h6 : hi < 1000) :
    ∃ a2 : Nat, (lo : Int) + g = (a2 : Int) ∧ a2 + f < 1000 ∧ (hi : Int) + (g + gx) = ((a2 + f : Nat) : Int) ∧ g + (f : Int) - (o : Int) = gn ∧ lo + o < 1000 := by
  refine ⟨((lo : Int) + g).toNat, by omega, by omega, by omega, by omega, by omega⟩
theorem hd_len {lo hi o a2 f : Nat} (h1 : hi = lo + o) (h2 : lo + o < 1000) (h3 : a2 + f < 1000) : (hdB lo a2 hi (a2 + f)).length ≤ 30 ∧ (rgB lo (lo + o)).length ≤ 7 ∧ (rgB a2 (a2 + f)).length ≤ 7 := by
  have r1 := rg_len (a := lo) (b := lo + o) (N := 1000) (Nat.le_refl _) h2 (by omega)
  have r2 := rg_len (a := a2) (b := a2 + f) (N := 1000) (Nat.le_refl _) h3 (by omega)
  refine ⟨?_, r1, r2⟩
  subst h1
  unfold hdB
  simp only [List.length_append, List.length_cons, List.length_nil]
  omega
theorem hd_str (cs bd : List UInt8) {lo hi o a2 f : Nat} (h1 : hi = lo + o) : Lin.mk cs ++ ⟨#[64, 64, 32, 45]⟩ ++ Lin.mk (rgB lo (lo + o)) ++ ⟨#[32, 43]⟩ ++ Lin.mk (rgB a2 (a2 + f)) ++ ⟨#[32, 64, 64, 10]⟩ ++ Lin.mk bd = Lin.mk (cs ++ (hdB lo a2 hi (a2 + f) ++ [10] ++ bd)) := by
  subst h1
  rw [show (⟨#[64, 64, 32, 45]⟩ : ByteArray) = Lin.mk [64, 64, 32, 45] from rfl, show (⟨#[32, 43]⟩ : ByteArray) = Lin.mk [32, 43] from rfl, show (⟨#[32, 64, 64, 10]⟩ : ByteArray) = Lin.mk [32, 64, 64, 10] from rfl]
  simp only [mk_app]
  unfold hdB
  congr 1
  simp only [List.append_assoc, List.cons_append, List.nil_append]
theorem fm_next {t : List ByteArray} {C g : Int} {x : List Tp.H} {G : List (List Tp.H)} {cs bd T : List UInt8} {lo hi a2 f : Nat} (h : cs ++ fmB t C g (x :: G) = T) (h1 : lo = Tp.loF C x) (h2 : hi = Tp.hiF t C x) (h3 : (lo : Int) + g = (a2 : Int)) (h4 : (hi : Int) + (g + Tp.gr x) = ((a2 + f : Nat) : Int)) (h5 : bd = wgB t lo x hi) :
    (cs ++ (hdB lo a2 hi (a2 + f) ++ [10] ++ bd)) ++ fmB t C (g + Tp.gr x) G = T := by
  rw [← h, h5]
  show _ = cs ++ (hdB (Tp.loF C x) ((Tp.loF C x : Int) + g).toNat (Tp.hiF t C x) ((Tp.hiF t C x : Int) + (g + Tp.gr x)).toNat ++ [10] ++ wgB t (Tp.loF C x) x (Tp.hiF t C x) ++ fmB t C (g + Tp.gr x) G)
  rw [← h1, ← h2, h3, h4]
  simp only [List.append_assoc, Int.toNat_natCast]
theorem emp : (⟨#[]⟩ : ByteArray) = ByteArray.empty := rfl
theorem run_one {c : Int} {hs : List Tp.H} {i l : Nat} (r : Tp.Run c hs i l) : i ≤ l ∧ l < hs.length := ⟨r.il, r.lt⟩
set_option maxRecDepth 100000 in
set_option maxHeartbeats 16000000 in
theorem refFormat_any (p pt : Option Addr) (hs : List Tp.H) (t : List ByteArray) (cap ct : Nat) (c : Int) (w : World) (hp : Ptc w p hs) (hl : hs.length ≤ 2513169434845) (hq : Sts w pt t) (hc' : pt = none → ct = 0) (ht : t.length ≤ ct) :
    Calls Tryd.prog 5 #[.slice pt t.length ct, .agg #[.slice p hs.length cap], .int .i64 c] w (BPost (.tuple #[.string (fmS t hs c), .agg #[.int .i64 (fmC t hs c), .int .i64 (fmI t hs c)]]) w) := by
  have HP := Lib.hid hp
  have HQ := Lib.hid hq
  have HC := Lib.hid hc'
  have HT := Lib.hid ht
  clear hp hq hc' ht
  have up0 : Below w.heap.size w ((w.alloc (.cells #[.slice p hs.length cap] 25 (0, 0))).alloc (.cells #[.int .i64 0, .int .i64 0] 27 (0, 0))) := up_alloc (up_alloc (Below.refl _ _) _) _
  have O0 : Hid (One ((w.alloc (.cells #[.slice p hs.length cap] 25 (0, 0))).alloc (.cells #[.int .i64 0, .int .i64 0] 27 (0, 0))) w.heap.size (.slice p hs.length cap)) := Lib.hid ((One.new w (.slice p hs.length cap) 25 w.heap.size rfl).alloc _)
  have F0 : Hid (Flt ((w.alloc (.cells #[.slice p hs.length cap] 25 (0, 0))).alloc (.cells #[.int .i64 0, .int .i64 0] 27 (0, 0))) (w.heap.size + 1) 0 0) := by
    have := Flt.new (w.alloc (.cells #[.slice p hs.length cap] 25 (0, 0))) 0 0 27
    rwa [World.size_alloc] at this
  have oc0 := O0.out.c
  go_enter Tryd.func5, Tryd.ntmps5
  go_wp2_with fail
  refine (refApply_any p pt hs t _ cap _ ct _ rfl rfl (HP.out.mono up0) hl (HQ.out.mono up0) HC.out HT.out).mono ?_
  rintro e w1 ⟨vs, rfl, own1, hb1⟩
  obtain ⟨ps, cs, rfl, -, -⟩ := ownS_shape own1
  have u1 := up_call up0 hb1
  have b1 := up_alloc (Below.refl w1.heap.size w1) (.cells #[.int .i64 (Tp.aC hs t), .int .i64 (Tp.aI hs t)] 27 (0, 0))
  have O1 := Lib.hid ((O0.out.up hb1).up b1)
  have F1 := Lib.hid ((F0.out.up hb1).up b1)
  have G1 := Lib.hid (Flt.new w1 (Tp.aC hs t) (Tp.aI hs t) 27)
  have B1 := Lib.hid (up_alloc u1 (.cells #[.int .i64 (Tp.aC hs t), .int .i64 (Tp.aI hs t)] 27 (0, 0)))
  have Z1 : Hid (w.heap.size < w1.heap.size) := Lib.hid (by have := u1.size; have := (F0.out.up hb1).lt; omega)
  clear up0 hb1 O0 F0 own1 u1 b1 oc0
  by_cases ha : Tp.aC hs t = 0
  · have HA := Lib.hid ha
    rw [ha] at O1 F1 G1 B1 ⊢
    have g0 := G1.out.c0
    clear ha
    by_cases hr : c < 0 ∨ 120 < c
    · --<<M
      have E := Lib.hid (fm_rng HA.out hr)
      by_cases h0 : c < 0
      case' pos => have g1 : decide (c < 0) = true := decide_eq_true h0
      case' neg =>
        have g1 : decide (c < 0) = false := decide_eq_false h0
        have g2 : decide (120 < c) = true := decide_eq_true (by omega)
      all_goals
        clear hr h0
        go_wp2_with fail
        refine (at_any 3 (-3) _).mono ?_
        rintro e w9 ⟨rfl, hb9⟩
        have F9 := F1.out.up hb9
        have B9 := Lib.hid (up_call B1.out hb9)
        obtain ⟨d0, d1, -, -, -⟩ := F9.set2 3 (-3)
        obtain ⟨a0, a1, a2, a3, a4⟩ := F9
        clear hb9
        go_wp2_with fail
        refine bodyPost_ret (v := .tuple #[.string ByteArray.empty, .agg #[.int .i64 3, .int .i64 (-3)]]) (by simp [results, Tryd.results5, go_sem, d0, d1, emp]) rfl ⟨by rw [E.out.1, E.out.2.1, E.out.2.2], ?_⟩
        exact (B9.out.setCell (Nat.le_succ _) _).setCell (Nat.le_succ _) _
      -->>M
    · obtain ⟨C, rfl⟩ : ∃ C : Nat, c = C := ⟨c.toNat, by omega⟩
      have hC : C ≤ 120 := by omega
      have HR := Lib.hid hr
      have gr1 : decide ((C : Int) < 0) = false := decide_eq_false (by omega)
      have gr2 : decide ((120 : Int) < (C : Int)) = false := decide_eq_false (by omega)
      have OK := Lib.hid (Tp.aC_zero.1 HA.out)
      have FA := Lib.hid (fm_okall OK.out (show (0 : Int) ≤ (C : Int) by omega))
      have lt := (Lin.vC_zero OK.out.vt).1
      have T80 : Hid (∀ s ∈ t, s.size ≤ 80) := Lib.hid (fun s hs => (Lin.lc_zero ((Lin.vC_zero OK.out.vt).2 s hs)).1)
      have hl1 := OK.out.vp.len
      have oc := O1.out.c
      obtain ⟨T, hT⟩ : ∃ T, T = fmB t C 0 (Tp.gfold C none [] hs) := ⟨_, rfl⟩
      have TS : Hid ([] ++ fmB t C (Tp.gr (hs.take 0)) (Tp.gfold C none [] (hs.drop 0)) = T) := Lib.hid (by rw [hT]; rfl)
      have HTT := Lib.hid hT
      clear hr hT
      go_wp2_with fail
      obtain ⟨W, hW⟩ : ∃ W, W = w1.alloc (.cells #[.int .i64 0, .int .i64 (Tp.aI hs t)] 27 (0, 0)) := ⟨_, rfl⟩
      rw [← hW] at O1 F1 G1 B1 oc g0 ⊢
      clear hW
      go_loopw [10, 11, 12] (fun o sh i wr => ∃ (k : Nat) (cs : List UInt8), k ≤ hs.length ∧ i = .int .i64 k ∧ sh = .int .i64 (Tp.gr (hs.take k)) ∧ o = .string (Lin.mk cs) ∧ Hid (cs ++ fmB t C (Tp.gr (hs.take k)) (Tp.gfold C none [] (hs.drop k)) = T ∧ (k < hs.length → Sg C hs k) ∧ cs.length ≤ k * 200100) ∧ Hid (Below W.heap.size W wr)) (fun _ _ i _ => hs.length - (intOf i).toNat)
      case atStart => exact ⟨0, [], Nat.zero_le _, rfl, rfl, rfl, Lib.hid ⟨TS.out, fun _ => .inl rfl, Nat.zero_le _⟩, Lib.hid (Below.refl _ _)⟩
      case round =>
        as_aux_lemma =>
        obtain ⟨k, cs', hk, rfl, rfl, rfl, hI, hB⟩ := hrel
        have b0 : (0 : Int) ≤ (k : Int) := by omega
        have ocr := (hB.out.cell (p := ⟨w.heap.size, 0, none⟩) O1.out.lt).trans oc
        by_cases hlt : k < hs.length
        · have b1 : (k : Int) < (hs.length : Int) := by omega
          obtain ⟨V, hV⟩ : ∃ V, V = wr := ⟨_, rfl⟩
          rw [← hV] at hB ocr ⊢
          clear hV
          have BV := Lib.hid (up_call B1.out hB.out)
          have PV := Lib.hid (HP.out.mono BV.out)
          have TV := Lib.hid (HQ.out.mono BV.out)
          have OV := Lib.hid (O1.out.up hB.out)
          have SK := Lib.hid (hI.out.2.1 hlt)
          go_upto_block 2 with fail
          go_cut [13] from 40 to 204 (fun l wq => ∃ L : Nat, l = .int .i64 L ∧ Hid (Tp.Run C hs k L ∧ Tp.gfold C none [] (hs.drop k) = Tp.gp hs k L :: Tp.gfold C none [] (hs.drop (L + 1)) ∧ (L + 1 < hs.length → Sg C hs (L + 1)) ∧ Fm1 1000 t C (Tp.gr (hs.take k)) (Tp.gp hs k L)) ∧ Hid (Below V.heap.size V wq))
          case first =>
            --<<A
            go_wp2_with fail
            go_loopw [13] (fun l wq => ∃ L : Nat, l = .int .i64 L ∧ Hid (Tp.Run C hs k L) ∧ Hid (Below V.heap.size V wq)) (fun l _ => hs.length - (intOf l).toNat)
            case atStart => exact ⟨k, rfl, Lib.hid (Tp.Run.start C hs k hlt), Lib.hid (Below.refl _ _)⟩
            case round =>
              as_aux_lemma =>
              obtain ⟨L, rfl, hR, hBq⟩ := hrel
              obtain ⟨hkL, hLl⟩ := run_one hR.out
              have b2 : (0 : Int) ≤ (L : Int) := by omega
              have b3 : (L : Int) < (hs.length : Int) := by omega
              obtain ⟨bp, fp, rfl, hbp, ⟨o1, o2, o3⟩, ⟨n1, n2, n3⟩, c0, c1, c2, r1, r2⟩ := PV.out.cell hLl
              obtain ⟨a1, a2, a3, a4, a5, a6, a7⟩ := Tp.ok_at OK.out L hLl
              have l1 := r1.len
              have l2 := r2.len
              dsimp only at l1 l2
              subst l1 l2
              simp only [sv] at c1 c2
              have OQ := Lib.hid (OV.out.up hBq.out)
              by_cases hn : L + 1 < hs.length
              · obtain ⟨m, hm⟩ : ∃ m, m = L + 1 := ⟨_, rfl⟩
                have hmn : m < hs.length := by omega
                have e1 : (L : Int) + 1 = (m : Int) := by omega
                have b4 : (0 : Int) ≤ (m : Int) := by omega
                have b5 : (m : Int) < (hs.length : Int) := by omega
                have g1 : decide ((m : Int) < (hs.length : Int)) = true := decide_eq_true b5
                have g2 : decide (m < hs.length) = true := decide_eq_true hmn
                obtain ⟨bp', fp', e, hbp', -, -, c0', -, -, -, -⟩ := PV.out.cell hmn
                cases e
                obtain ⟨q1, q2, q3, -⟩ := Tp.ok_at OK.out m hmn
                have RN := Lib.hid (fun (q : hs[m].at' - Tp.en hs[L] ≤ 2 * C) => (by subst hm; exact hR.out.next hmn q : Tp.Run C hs k m))
                have RF : Hid (2 * (C : Int) < hs[m].at' - Tp.en hs[L] → Tp.Run C hs k L ∧ Tp.gfold C none [] (hs.drop k) = Tp.gp hs k L :: Tp.gfold C none [] (hs.drop (L + 1)) ∧ (L + 1 < hs.length → Sg C hs (L + 1)) ∧ Fm1 1000 t C (Tp.gr (hs.take k)) (Tp.gp hs k L)) := Lib.hid (fun q => by
                  subst hm
                  exact ⟨hR.out, hR.out.stop (fun _ => q), fun h => .inr ⟨h, by simpa using q⟩, fm1_gp OK.out (by omega) hR.out (fun _ => q) SK.out⟩)
                have ez : Tp.en hs[L] = hs[L].at' + hs[L].old.length := rfl
                rw [ez] at RN RF a3
                obtain ⟨z1, hz1⟩ : ∃ z, z = hs[m].at' := ⟨_, rfl⟩
                rw [← hz1] at RN RF c0' q1 q2
                obtain ⟨⟨z, ol, nl⟩, hx⟩ : ∃ x, x = hs[L] := ⟨_, rfl⟩
                rw [← hx] at RN RF c0 c1 c2 a1 a2 a3 a6 a7
                dsimp only at RN RF c0 c1 c2 a1 a2 a3 a6 a7
                have d0 := (hBq.out.cell (p := ⟨bp, fp + L * 3, none⟩) hbp).trans c0
                have d1 := (hBq.out.cell (p := ⟨bp, fp + L * 3 + 1, none⟩) hbp).trans c1
                have d2 := (hBq.out.cell (p := ⟨bp, fp + L * 3 + 2, none⟩) hbp).trans c2
                have d3 := (hBq.out.cell (p := ⟨bp, fp + m * 3, none⟩) hbp).trans c0'
                have hbq := Nat.lt_of_lt_of_le hbp hBq.out.size
                have w1 : IntKind.i64.wrap (z1 - (z + (ol.length : Int))) = z1 - (z + (ol.length : Int)) := IntWalk.i64_in _ (by omega)
                have w2 : IntKind.i64.wrap (2 * (C : Int)) = 2 * (C : Int) := IntWalk.i64_in _ (by omega)
                have wm : IntKind.i64.wrap (m : Int) = (m : Int) := IntWalk.i64_in _ (by omega)
                have CE := fun n => over_call (refEnd_any z o1 n1 ol.length o3 nl.length n3 (over wr n) (by omega) (by omega) (by omega))
                have HM := Lib.hid hm
                have HN := Lib.hid hn
                clear hm hn hx hz1 c0 c1 c2 c0' r1 r2
                by_cases hq : z1 - (z + (ol.length : Int)) ≤ 2 * (C : Int)
                · have g3 : decide (z1 - (z + (ol.length : Int)) ≤ 2 * (C : Int)) = true := decide_eq_true hq
                  have RR := Lib.hid (RN.out hq)
                  have HQ2 := Lib.hid hq
                  clear hq
                  go_wp2_with fail
                  refine over_lit (by kernel_rfl) (by kernel_rfl) ?_
                  have r1 := over_cell OQ.out.lt OQ.out.c
                  have r2 := over_cell hbq d0
                  have r3 := over_cell hbq d1
                  have r4 := over_cell hbq d2
                  have r5 := over_cell hbq d3
                  repeat (go_big_quiet_step ((go_at_call 22; with_reducible exact CE _)))
                  refine wpQuiet_nil ?_
                  rintro _ ⟨nq, rfl⟩
                  clear r1 r2 r3 r4 r5 CE
                  go_wp2_with fail
                  go_roundw
                  case rel => exact ⟨m, by first | rfl | rw [e1], RR, Lib.hid (up_call hBq.out (over_below _ _))⟩
                  case measure => first | (simp [intOf]; done) | (simp [intOf]; omega)
                · have g3 : decide (z1 - (z + (ol.length : Int)) ≤ 2 * (C : Int)) = false := decide_eq_false hq
                  have RR := Lib.hid (RF.out (by omega))
                  have HQ2 := Lib.hid hq
                  clear hq
                  go_wp2_with fail
                  refine over_lit (by kernel_rfl) (by kernel_rfl) ?_
                  have r1 := over_cell OQ.out.lt OQ.out.c
                  have r2 := over_cell hbq d0
                  have r3 := over_cell hbq d1
                  have r4 := over_cell hbq d2
                  have r5 := over_cell hbq d3
                  repeat (go_big_quiet_step ((go_at_call 22; with_reducible exact CE _)))
                  refine wpQuiet_nil ?_
                  rintro _ ⟨nq, rfl⟩
                  clear r1 r2 r3 r4 r5 CE
                  go_wp2_with fail
                  go_meet
                  case rel => exact ⟨L, rfl, RR, Lib.hid (up_call hBq.out (over_below _ _))⟩
              · have g1 : decide ((L : Int) + 1 < (hs.length : Int)) = false := decide_eq_false (by omega)
                have g2 : decide (L + 1 < hs.length) = false := decide_eq_false hn
                have RS := Lib.hid (And.intro hR.out (And.intro (hR.out.stop (fun h => (hn h).elim)) (And.intro (fun h => ((hn h).elim : Sg C hs (L + 1))) (fm1_gp OK.out (by omega) hR.out (fun h => (hn h).elim) SK.out))))
                have wL : IntKind.i64.wrap ((L : Int) + 1) = (L : Int) + 1 := IntWalk.i64_in _ (by omega)
                clear hn
                go_wp2_with fail
                refine over_lit (by kernel_rfl) (by kernel_rfl) ?_
                have r1 := over_cell OQ.out.lt OQ.out.c
                repeat (go_big_quiet_step (fail))
                refine wpQuiet_nil ?_
                rintro _ ⟨nq, rfl⟩
                go_wp2_with fail
                go_meet
                case rel => exact ⟨L, rfl, RS, Lib.hid (up_call hBq.out (over_below _ _))⟩
            -->>A
          case rest =>
            obtain ⟨L, rfl, hR, hBq⟩ := hcut
            obtain ⟨hkL, hLl⟩ := run_one hR.out.1
            have b3 : (L : Int) < (hs.length : Int) := by omega
            have b2 : (0 : Int) ≤ (L : Int) := by omega
            obtain ⟨X, hX⟩ : ∃ X, X = wc := ⟨_, rfl⟩
            rw [← hX] at hBq ⊢
            clear hX
            have BX := Lib.hid (up_call BV.out hBq.out)
            have PX := Lib.hid (HP.out.mono BX.out)
            have TX := Lib.hid (HQ.out.mono BX.out)
            have OX := Lib.hid (OV.out.up hBq.out)
            have ocx := OX.out.c
            obtain ⟨a1, a2, a3, a4, a5, a6, a7⟩ := Tp.ok_at OK.out k hlt
            obtain ⟨b1', b2', b3', b4', b5', b6', b7'⟩ := Tp.ok_at OK.out L hLl
            have eL : Tp.en hs[L] = hs[L].at' + hs[L].old.length := rfl
            have hlo := lo_gp C hs k L hkL hLl
            have hhi := hi_gp (c := C) (t := t) k L hkL hLl (by omega)
            have F1k := Lib.hid hR.out.2.2.2
            have FW := F1k.out.wg
            have FZ := F1k.out.sz
            have FN1 := F1k.out.n1
            have FN2 := F1k.out.n2
            have FG0 := F1k.out.g0
            have GG := Lib.hid (Tp.gp_gr hs k L hkL)
            obtain ⟨lo, hlo'⟩ : ∃ lo, lo = Tp.loF C (Tp.gp hs k L) := ⟨_, rfl⟩
            obtain ⟨hi, hhi'⟩ : ∃ lo, lo = Tp.hiF t C (Tp.gp hs k L) := ⟨_, rfl⟩
            rw [← hlo'] at hlo FW FZ FG0
            rw [← hhi'] at hhi FW FZ FN1 FN2
            have HLO := Lib.hid hlo'
            have HHI := Lib.hid hhi'
            have WG0 : Hid ([] ++ wgB t (lo + 0) (gx hs k L) hi = wgB t lo (Tp.gp hs k L) hi ∧ Wg t (lo + 0) (gx hs k L) hi ∧ (wgB t lo (Tp.gp hs k L) hi).length ≤ 200000) := Lib.hid (by unfold gx; rw [if_pos hkL]; exact ⟨rfl, FW, FZ⟩)
            have NN := Lib.hid (And.intro FN1 (And.intro FN2 FG0))
            clear FW FZ FN1 FN2 FG0 hlo' hhi'
            obtain ⟨bp, fp, rfl, hbp, ⟨o1, o2, o3⟩, ⟨n1, n2, n3⟩, c0, c1, c2, r1, r2⟩ := PX.out.cell hlt
            obtain ⟨bp', fp', e', hbp', ⟨x1, x2, x3⟩, ⟨y1, y2, y3⟩, d0, d1, d2, s1, s2⟩ := PX.out.cell hLl
            cases e'
            have l1 := s1.len
            have l2 := s2.len
            dsimp only at l1 l2
            subst l1 l2
            simp only [sv] at d1 d2
            have w1 : IntKind.i64.wrap (hs[k].at' - (C : Int)) = hs[k].at' - (C : Int) := IntWalk.i64_in _ (by omega)
            have w2 : IntKind.i64.wrap (Tp.en hs[L] + (C : Int)) = Tp.en hs[L] + (C : Int) := IntWalk.i64_in _ (by omega)
            have KE := refEnd_any hs[L].at' x1 y1 hs[L].old.length x3 hs[L].new.length y3 X (by omega) (by omega) (by omega)
            rw [← eL] at KE
            obtain ⟨eN, heN⟩ : ∃ e, e = Tp.en hs[L] := ⟨_, rfl⟩
            obtain ⟨zk, hzk⟩ : ∃ z, z = hs[k].at' := ⟨_, rfl⟩
            rw [← heN] at KE w2 hhi b3'
            rw [← hzk] at c0 w1 hlo a1 a2
            obtain ⟨⟨zL, olL, nlL⟩, hxL⟩ : ∃ x, x = hs[L] := ⟨_, rfl⟩
            rw [← hxL] at d0 d1 d2 KE
            dsimp only at d0 d1 d2 KE
            have KEE := Lib.hid KE
            have HLo := Lib.hid hlo
            have HHi := Lib.hid hhi
            have EL := Lib.hid (And.intro heN (And.intro hzk hxL))
            clear heN hzk hxL c1 c2 r1 r2 s1 s2 KE eL hlo hhi
            go_upto_if 82 with (fail)
            go_cut [14] from 40 to 204 (fun v wq => v = .int .i64 (lo : Int) ∧ Hid (wq = X))
            case first =>
              --<<B
              by_cases hn : zk - (C : Int) < 0
              · have g1 : decide (zk - (C : Int) < 0) = true := decide_eq_true hn
                have e0 : lo = 0 := by have := HLo.out; omega
                have E0 := Lib.hid e0
                clear e0
                go_wp2_with fail
                go_meet
                case rel => exact ⟨by rw [E0.out]; rfl, Lib.hid rfl⟩
              · have g1 : decide (zk - (C : Int) < 0) = false := decide_eq_false hn
                have e0 : zk - (C : Int) = (lo : Int) := by have := HLo.out; omega
                have E0 := Lib.hid e0
                clear e0
                go_wp2_with fail
                go_meet
                case rel => exact ⟨by rw [E0.out], Lib.hid rfl⟩
              -->>B
            case rest =>
              obtain ⟨rfl, hwq⟩ := hcut
              obtain rfl := hwq.out
              clear hwq
              go_wp2_with fail
              refine KEE.out.mono ?_
              rintro e w5 ⟨rfl, hb5⟩
              have BY := Lib.hid (up_call BX.out hb5)
              have VY := Lib.hid (up_call hBq.out hb5)
              have PY := Lib.hid (PX.out.mono hb5)
              have TY := Lib.hid (TX.out.mono hb5)
              have OY := Lib.hid (OX.out.up hb5)
              have ocy := OY.out.c
              clear hb5 c0 d0 d1 d2 ocx KEE
              go_upto_if 94 with (fail)
              go_cut [15] from 40 to 204 (fun v wq => v = .int .i64 (hi : Int) ∧ Hid (wq = w5))
              case first =>
                --<<C
                by_cases hn : (t.length : Int) < eN + (C : Int)
                · have g1 : decide ((t.length : Int) < eN + (C : Int)) = true := decide_eq_true hn
                  have e0 : (t.length : Int) = (hi : Int) := by have := HHi.out; omega
                  have E0 := Lib.hid e0
                  clear e0
                  go_wp2_with fail
                  go_meet
                  case rel => exact ⟨by rw [E0.out], Lib.hid rfl⟩
                · have g1 : decide ((t.length : Int) < eN + (C : Int)) = false := decide_eq_false hn
                  have e0 : eN + (C : Int) = (hi : Int) := by have := HHi.out; omega
                  have E0 := Lib.hid e0
                  clear e0
                  go_wp2_with fail
                  go_meet
                  case rel => exact ⟨by rw [E0.out], Lib.hid rfl⟩
                -->>C
              case rest =>
                obtain ⟨rfl, hwq⟩ := hcut
                obtain rfl := hwq.out
                clear hwq
                go_wp2_with fail
                go_loopw [12, 16, 17, 18, 19] (fun i b ov fv kv wr => ∃ (i' o f kk : Nat) (bd : List UInt8), k ≤ i' ∧ i' ≤ L + 1 ∧ i = .int .i64 i' ∧ b = .string (Lin.mk bd) ∧ ov = .int .i64 o ∧ fv = .int .i64 f ∧ kv = .int .i64 kk ∧ Hid (kk = lo + o ∧ bd ++ wgB t kk (gx hs i' L) hi = wgB t lo (Tp.gp hs k L) hi ∧ Wg t kk (gx hs i' L) hi ∧ (f : Int) = o + Tp.gr (hs.take i') - Tp.gr (hs.take k)) ∧ Hid (Below wc.heap.size wc wr)) (fun i _ _ _ kv _ => (L + 1 - (intOf i).toNat) + (hi - (intOf kv).toNat))
                case atStart => exact ⟨k, 0, 0, lo, [], Nat.le_refl _, by omega, rfl, rfl, rfl, rfl, rfl, Lib.hid ⟨rfl, WG0.out.1, WG0.out.2.1, by simp⟩, Lib.hid (Below.refl _ _)⟩
                case round =>
                  as_aux_lemma =>
                  --<<D
                  obtain ⟨i', o, f, kk, bd, h1, h2, rfl, rfl, rfl, rfl, rfl, hJ, hB3⟩ := hrel
                  have wgl := (wg_len T80.out hi _ _ hJ.out.2.2.1).2
                  have bdl : bd.length ≤ 200000 := by
                    have q := congrArg List.length hJ.out.2.1
                    rw [List.length_append] at q
                    have := WG0.out.2.2
                    omega
                  have bds := mk_size bd
                  have c2' : (i' : Int) ≤ (L : Int) + 1 := by omega
                  have OZ := Lib.hid (OY.out.up hB3.out)
                  have ocz := OZ.out.c
                  have gb1 := Tp.gr_bound (hs.take i') (fun x hx => by
                    obtain ⟨j, hj, rfl⟩ := List.getElem_of_mem (List.mem_of_mem_take hx)
                    have := Tp.ok_at OK.out j hj
                    omega)
                  have gb2 := Tp.gr_bound (hs.take k) (fun x hx => by
                    obtain ⟨j, hj, rfl⟩ := List.getElem_of_mem (List.mem_of_mem_take hx)
                    have := Tp.ok_at OK.out j hj
                    omega)
                  rw [List.length_take] at gb1 gb2
                  have hfo := hJ.out.2.2.2
                  have hko := hJ.out.1
                  have nh := NN.out.1
                  have fb : f ≤ 100000 := by omega
                  have ob : o ≤ 1000 := by omega
                  clear hfo hko
                  by_cases hil : i' ≤ L
                  · have i1 : decide (i' ≤ L) = true := decide_eq_true hil
                    have hin : i' < hs.length := by omega
                    have b4 : (0 : Int) ≤ (i' : Int) := by omega
                    have b5 : (i' : Int) < (hs.length : Int) := by omega
                    obtain ⟨bq, fq, eq', hbq, ⟨p1, p2, p3⟩, ⟨q1, q2, q3⟩, c0, c1, c2, r1, r2⟩ := PY.out.cell hin
                    cases eq'
                    replace c0 := (hB3.out.cell (p := ⟨bp, fp + i' * 3, none⟩) hbq).trans c0
                    replace c1 := (hB3.out.cell (p := ⟨bp, fp + i' * 3 + 1, none⟩) hbq).trans c1
                    replace c2 := (hB3.out.cell (p := ⟨bp, fp + i' * 3 + 2, none⟩) hbq).trans c2
                    obtain ⟨m1, m2, m3, m4, m5, m6, m7⟩ := Tp.ok_at OK.out i' hin
                    have l1 := r1.len
                    have l2 := r2.len
                    dsimp only at l1 l2
                    subst l1 l2
                    simp only [sv] at c1 c2
                    have GC := gx_cons hs i' L hil hLl
                    rw [GC] at hJ wgl
                    have GN := Lib.hid (Tp.gr_next hs i' hin)
                    by_cases hat : hs[i'].at' = (kk : Int)
                    · --<<E
                      have WO := wg_old hJ.out.2.2.1 hat
                      have KE2 := Lib.hid (fun Y => refEnd_any hs[i'].at' p1 q1 hs[i'].old.length p3 hs[i'].new.length q3 Y (by omega) (by omega) (by omega))
                      rw [hat] at c0 KE2
                      obtain ⟨⟨z, ol, nl⟩, hx⟩ : ∃ x, x = hs[i'] := ⟨_, rfl⟩
                      rw [← hx] at c1 c2 m3 m4 m5 m6 m7 r1 r2 WO GN hJ KE2
                      dsimp only at c1 c2 m4 m5 m6 m7 r1 r2 WO GN KE2
                      have HJ := Lib.hid (And.intro hJ.out WO)
                      have b6 := up_alloc (Below.refl wr.heap.size wr) (.cells #[.int .i64 (kk : Int), .slice p1 ol.length p3, .slice q1 nl.length q3] 46 (0, 0))
                      have U2 := Lib.hid (Hu.new wr (kk : Int) (.slice p1 ol.length p3) (.slice q1 nl.length q3) 46)
                      have B5 := Lib.hid (up_call hB3.out b6)
                      have S1 := Lib.hid ((r1.sts.mono hB3.out).mono b6)
                      have S2 := Lib.hid ((r2.sts.mono hB3.out).mono b6)
                      have OB := Lib.hid (OZ.out.up b6)
                      have HXX := Lib.hid hx
                      clear hx hat GC WO r1 r2 b6 hJ wgl
                      by_cases hk3 : kk < hi
                      case' pos => have k1 : decide (kk < hi) = true := decide_eq_true hk3
                      case' neg => have k1 : decide (kk < hi) = false := decide_eq_false hk3
                      all_goals
                        have HK3 := Lib.hid hk3
                        clear hk3
                        go_wp2_with fail
                        obtain ⟨V2, hV2⟩ : ∃ V2, V2 = wr.alloc (.cells #[.int .i64 (kk : Int), .slice p1 ol.length p3, .slice q1 nl.length q3] 46 (0, 0)) := ⟨_, rfl⟩
                        rw [← hV2] at U2 B5 S1 S2 OB ⊢
                        clear hV2 c0 c1 c2 ocz
                        obtain ⟨u0, u1, u2, ul⟩ := U2.out
                        go_loop [16, 21] (fun b j => ∃ y : Nat, y ≤ ol.length ∧ j = .int .i64 y ∧ b = .string (Lin.mk (bd ++ lnsB 45 (ol.take y)))) (fun _ j => ol.length - (intOf j).toNat)
                        case atStart => exact ⟨0, Nat.zero_le _, rfl, by rw [List.take_zero, lnsB_nil, List.append_nil]⟩
                        case round =>
                          as_aux_lemma =>
                          obtain ⟨y, hy, rfl, rfl⟩ := hrel
                          have b7 : (0 : Int) ≤ (y : Int) := by omega
                          have q1' := lnsB_len 45 (ol.take y) (fun s hs => m4 s (List.mem_of_mem_take hs))
                          rw [List.length_take] at q1'
                          have q2' : (bd ++ lnsB 45 (ol.take y)).length ≤ 210000 := by rw [List.length_append]; omega
                          have q3' := mk_size (bd ++ lnsB 45 (ol.take y))
                          by_cases hyl : y < ol.length
                          · have b8 : (y : Int) < (ol.length : Int) := by omega
                            have j1 : decide (y < ol.length) = true := decide_eq_true hyl
                            obtain ⟨be, fe, rfl, hbe, ce⟩ := S1.out.cell hyl
                            have se := m4 _ (List.getElem_mem hyl)
                            have LE := Lib.hid (show Lin.mk (bd ++ lnsB 45 (ol.take y)) ++ ⟨#[45]⟩ ++ ol[y] ++ ⟨#[10]⟩ = Lin.mk (bd ++ lnsB 45 (ol.take (y + 1))) by rw [ln_str, lnsB_next _ _ _ hyl, List.append_assoc])
                            obtain ⟨x, hx⟩ : ∃ x, x = ol[y] := ⟨_, rfl⟩
                            rw [← hx] at ce se LE
                            obtain ⟨X, hX⟩ : ∃ X, X = Lin.mk (bd ++ lnsB 45 (ol.take y)) := ⟨_, rfl⟩
                            rw [← hX] at LE q3' ⊢
                            have q4 : X.size ≤ 210000 := by omega
                            have z1 : (⟨#[45]⟩ : ByteArray).size = 1 := rfl
                            have z2 : (⟨#[10]⟩ : ByteArray).size = 1 := rfl
                            clear hx hX q1' q2' q3'
                            go_wp2_with fail
                            go_round
                            case rel => exact ⟨y + 1, hyl, by go_num, by rw [← LE.out]⟩
                            case measure => first | (simp [intOf]; done) | (simp [intOf]; omega)
                          · obtain rfl : y = ol.length := by omega
                            have j1 : decide (ol.length < ol.length) = false := decide_eq_false (Nat.lt_irrefl _)
                            rw [List.take_length] at q2' q3' ⊢
                            have q4 : (Lin.mk (bd ++ lnsB 45 ol)).size ≤ 210000 := by omega
                            obtain ⟨bd2, hbd2⟩ : ∃ b, b = bd ++ lnsB 45 ol := ⟨_, rfl⟩
                            rw [← hbd2] at q2' q4 ⊢
                            have HB2 := Lib.hid hbd2
                            clear q1' q3' hbd2
                            go_wp2_with fail
                            go_loop [16, 22] (fun b j => ∃ y : Nat, y ≤ nl.length ∧ j = .int .i64 y ∧ b = .string (Lin.mk (bd2 ++ lnsB 43 (nl.take y)))) (fun _ j => nl.length - (intOf j).toNat)
                            case atStart => exact ⟨0, Nat.zero_le _, rfl, by rw [List.take_zero, lnsB_nil, List.append_nil]⟩
                            case round =>
                              as_aux_lemma =>
                              obtain ⟨y, hy, rfl, rfl⟩ := hrel
                              have b7 : (0 : Int) ≤ (y : Int) := by omega
                              have q1' := lnsB_len 43 (nl.take y) (fun s hs => m5 s (List.mem_of_mem_take hs))
                              rw [List.length_take] at q1'
                              have q2'' : (bd2 ++ lnsB 43 (nl.take y)).length ≤ 220000 := by rw [List.length_append]; omega
                              have q3' := mk_size (bd2 ++ lnsB 43 (nl.take y))
                              by_cases hyl : y < nl.length
                              · have b8 : (y : Int) < (nl.length : Int) := by omega
                                have j1 : decide (y < nl.length) = true := decide_eq_true hyl
                                obtain ⟨be, fe, rfl, hbe, ce⟩ := S2.out.cell hyl
                                have se := m5 _ (List.getElem_mem hyl)
                                have LE := Lib.hid (show Lin.mk (bd2 ++ lnsB 43 (nl.take y)) ++ ⟨#[43]⟩ ++ nl[y] ++ ⟨#[10]⟩ = Lin.mk (bd2 ++ lnsB 43 (nl.take (y + 1))) by rw [ln_str, lnsB_next _ _ _ hyl, List.append_assoc])
                                obtain ⟨x, hx⟩ : ∃ x, x = nl[y] := ⟨_, rfl⟩
                                rw [← hx] at ce se LE
                                obtain ⟨X, hX⟩ : ∃ X, X = Lin.mk (bd2 ++ lnsB 43 (nl.take y)) := ⟨_, rfl⟩
                                rw [← hX] at LE q3' ⊢
                                have q4 : X.size ≤ 220000 := by omega
                                have z1 : (⟨#[43]⟩ : ByteArray).size = 1 := rfl
                                have z2 : (⟨#[10]⟩ : ByteArray).size = 1 := rfl
                                clear hx hX q1' q2'' q3' q2'
                                go_wp2_with fail
                                go_round
                                case rel => exact ⟨y + 1, hyl, by go_num, by rw [← LE.out]⟩
                                case measure => first | (simp [intOf]; done) | (simp [intOf]; omega)
                              · obtain rfl : y = nl.length := by omega
                                have j1 : decide (nl.length < nl.length) = false := decide_eq_false (Nat.lt_irrefl _)
                                rw [List.take_length] at q3' ⊢
                                have NJ : Hid (kk + ol.length = lo + (o + ol.length) ∧ (bd2 ++ lnsB 43 nl) ++ wgB t (kk + ol.length) (gx hs (i' + 1) L) hi = wgB t lo (Tp.gp hs k L) hi ∧ Wg t (kk + ol.length) (gx hs (i' + 1) L) hi ∧ ((f + nl.length : Nat) : Int) = ((o + ol.length : Nat) : Int) + Tp.gr (hs.take (i' + 1)) - Tp.gr (hs.take k)) := Lib.hid (by
                                  obtain ⟨⟨j1, j2, j3, j4⟩, w1, w2, -⟩ := HJ.out
                                  refine ⟨by omega, ?_, w2, by rw [GN.out]; omega⟩
                                  rw [HB2.out, ← j2, w1]
                                  simp only [List.append_assoc])
                                clear q1' q2'' q3' q2'
                                go_wp2_with fail
                                refine (KE2.out _).mono ?_
                                rintro e w6 ⟨rfl, hb6⟩
                                have B6 := Lib.hid (up_call B5.out hb6)
                                clear hb6
                                go_wp2_with fail
                                go_roundw
                                case rel => exact ⟨i' + 1, o + ol.length, f + nl.length, kk + ol.length, _, by omega, by omega, by go_num, rfl, by go_num, by go_num, by go_num, NJ, B6⟩
                                case measure => first | (simp [intOf]; done) | (simp [intOf]; omega)
                      -->>E
                    · --<<F
                      have hlt' : (kk : Int) < hs[i'].at' := by
                        have := hJ.out.2.2.1.1.2.1
                        omega
                      obtain ⟨qk, e9, w9⟩ := wg_text hJ.out.2.2.1 hlt'
                      have hkh := (wg_len T80.out hi _ _ w9).2
                      have k1 : decide (kk < hi) = true := decide_eq_true (by omega)
                      have e8 : (hs[i'].at' == (kk : Int)) = false := by rw [beq_eq_false_iff_ne]; exact hat
                      obtain ⟨be, fe, rfl, hbe, ce⟩ := TY.out.cell qk
                      replace ce := (hB3.out.cell (p := ⟨be, fe + kk, none⟩) hbe).trans ce
                      have se := T80.out _ (List.getElem_mem qk)
                      have b7 : (0 : Int) ≤ (kk : Int) := by omega
                      have b8 : (kk : Int) < (t.length : Int) := by omega
                      have LE := Lib.hid (ln_str bd 32 t[kk])
                      have NJ : Hid (kk + 1 = lo + (o + 1) ∧ (bd ++ lnB 32 t[kk]) ++ wgB t (kk + 1) (gx hs i' L) hi = wgB t lo (Tp.gp hs k L) hi ∧ Wg t (kk + 1) (gx hs i' L) hi ∧ ((f + 1 : Nat) : Int) = ((o + 1 : Nat) : Int) + Tp.gr (hs.take i') - Tp.gr (hs.take k)) := Lib.hid ⟨by have := hJ.out.1; omega, by rw [GC, List.append_assoc, ← e9, hJ.out.2.1], by rw [GC]; exact w9, by have := hJ.out.2.2.2; omega⟩
                      obtain ⟨z, hz⟩ : ∃ z, z = hs[i'].at' := ⟨_, rfl⟩
                      rw [← hz] at c0 e8
                      obtain ⟨x, hx⟩ : ∃ x, x = t[kk] := ⟨_, rfl⟩
                      rw [← hx] at ce se LE NJ
                      obtain ⟨X, hX⟩ : ∃ X, X = Lin.mk bd := ⟨_, rfl⟩
                      rw [← hX] at LE bds ⊢
                      have z1 : (⟨#[32]⟩ : ByteArray).size = 1 := rfl
                      have z2 : (⟨#[10]⟩ : ByteArray).size = 1 := rfl
                      have HH := Lib.hid (And.intro hat hlt')
                      clear hz hx hX hat hlt' e9 w9 hJ wgl c1 c2 r1 r2 GC
                      go_wp2_with fail
                      go_roundw
                      case rel => exact ⟨i', o + 1, f + 1, kk + 1, _, h1, h2, rfl, by rw [LE.out], by go_num, by go_num, by go_num, NJ, hB3⟩
                      case measure => first | (simp [intOf]; done) | (simp [intOf]; omega)
                      -->>F
                  · obtain rfl : i' = L + 1 := by omega
                    have i1 : decide (L + 1 ≤ L) = false := decide_eq_false hil
                    rw [gx_end] at hJ
                    by_cases hkh : kk < hi
                    · --<<G
                      obtain ⟨qk, e9, w9⟩ := wg_tail hJ.out.2.2.1 hkh
                      have k1 : decide (kk < hi) = true := decide_eq_true hkh
                      obtain ⟨be, fe, rfl, hbe, ce⟩ := TY.out.cell qk
                      replace ce := (hB3.out.cell (p := ⟨be, fe + kk, none⟩) hbe).trans ce
                      have se := T80.out _ (List.getElem_mem qk)
                      have b7 : (0 : Int) ≤ (kk : Int) := by omega
                      have b8 : (kk : Int) < (t.length : Int) := by omega
                      have LE := Lib.hid (ln_str bd 32 t[kk])
                      have NJ : Hid (kk + 1 = lo + (o + 1) ∧ (bd ++ lnB 32 t[kk]) ++ wgB t (kk + 1) (gx hs (L + 1) L) hi = wgB t lo (Tp.gp hs k L) hi ∧ Wg t (kk + 1) (gx hs (L + 1) L) hi ∧ ((f + 1 : Nat) : Int) = ((o + 1 : Nat) : Int) + Tp.gr (hs.take (L + 1)) - Tp.gr (hs.take k)) := Lib.hid ⟨by have := hJ.out.1; omega, by rw [gx_end, List.append_assoc, ← e9, hJ.out.2.1], by rw [gx_end]; exact w9, by have := hJ.out.2.2.2; omega⟩
                      obtain ⟨x, hx⟩ : ∃ x, x = t[kk] := ⟨_, rfl⟩
                      rw [← hx] at ce se LE NJ
                      obtain ⟨X, hX⟩ : ∃ X, X = Lin.mk bd := ⟨_, rfl⟩
                      rw [← hX] at LE bds ⊢
                      have z1 : (⟨#[32]⟩ : ByteArray).size = 1 := rfl
                      have z2 : (⟨#[10]⟩ : ByteArray).size = 1 := rfl
                      have HH := Lib.hid (And.intro hil hkh)
                      clear hx hX hil hkh e9 w9 hJ wgl
                      go_wp2_with fail
                      go_roundw
                      case rel => exact ⟨L + 1, o + 1, f + 1, kk + 1, _, h1, h2, by first | rfl | go_num, by rw [LE.out], by go_num, by go_num, by go_num, NJ, hB3⟩
                      case measure => have := HH.out.2; first | (simp [intOf]; done) | (simp [intOf]; omega)
                      -->>G
                    · --<<I
                      have k1 : decide (kk < hi) = false := decide_eq_false hkh
                      obtain ⟨j1, j2, j3, j4⟩ := hJ.out
                      have hke : kk = hi := Nat.le_antisymm j3.1 (Nat.le_of_not_lt hkh)
                      rw [hke, wg_done, List.append_nil] at j2
                      have jh : hi = lo + o := hke.symm.trans j1
                      obtain ⟨a2, ha2, n3, n4, n5, n6⟩ := end_arith jh j4 GG.out NN.out.2.2 NN.out.2.1 NN.out.1
                      obtain ⟨hdl, r1, r2⟩ := hd_len jh n6 n3
                      have K1 := fun w => rshown_any lo o w n6
                      have K2 := fun w => rshown_any a2 f w n3
                      have eF := hI.out.1
                      rw [hR.out.2.1] at eF
                      have NF := fm_next eF HLO.out HHI.out ha2 n4 j2
                      rw [GG.out] at NF
                      have csl := hI.out.2.2
                      have NI : Hid ((cs' ++ (hdB lo a2 hi (a2 + f) ++ [10] ++ bd)) ++ fmB t C (Tp.gr (hs.take (L + 1))) (Tp.gfold C none [] (hs.drop (L + 1))) = T ∧ (L + 1 < hs.length → Sg C hs (L + 1)) ∧ (cs' ++ (hdB lo a2 hi (a2 + f) ++ [10] ++ bd)).length ≤ (L + 1) * 200100) := Lib.hid ⟨NF, hR.out.2.2.1, by
                        clear NF eF j2 j3 j4 K1 K2
                        simp only [List.length_append, List.length_cons, List.length_nil]
                        omega⟩
                      have SE := Lib.hid (hd_str cs' bd (o := o) (a2 := a2) (f := f) jh)
                      have GE := Lib.hid n5
                      have s0 := mk_size cs'
                      have s1 := mk_size (rgB lo (lo + o))
                      have s2 := mk_size (rgB a2 (a2 + f))
                      obtain ⟨S0, hS0⟩ : ∃ S, S = Lin.mk cs' := ⟨_, rfl⟩
                      obtain ⟨S1, hS1⟩ : ∃ S, S = Lin.mk (rgB lo (lo + o)) := ⟨_, rfl⟩
                      obtain ⟨S2, hS2⟩ : ∃ S, S = Lin.mk (rgB a2 (a2 + f)) := ⟨_, rfl⟩
                      obtain ⟨S3, hS3⟩ : ∃ S, S = Lin.mk bd := ⟨_, rfl⟩
                      rw [← hS0] at s0 SE ⊢
                      rw [← hS1] at s1 SE K1
                      rw [← hS2] at s2 SE K2
                      rw [← hS3] at bds SE ⊢
                      have m0 : S0.size ≤ 27000000 := by omega
                      have m1 : S1.size ≤ 7 := by omega
                      have m2 : S2.size ≤ 7 := by omega
                      have m3 : S3.size ≤ 200000 := by omega
                      have z1 : (⟨#[64, 64, 32, 45]⟩ : ByteArray).size = 4 := rfl
                      have z2 : (⟨#[32, 43]⟩ : ByteArray).size = 2 := rfl
                      have z3 : (⟨#[32, 64, 64, 10]⟩ : ByteArray).size = 4 := rfl
                      have gb3 : -40000 ≤ Tp.gr (hs.take k) ∧ Tp.gr (hs.take k) ≤ 40000 := by omega
                      have BE := Lib.hid (up_call hB.out (up_call VY.out hB3.out))
                      have HH := Lib.hid (And.intro hil (And.intro hkh hke))
                      obtain ⟨g, hg⟩ : ∃ g, g = Tp.gr (hs.take k) := ⟨_, rfl⟩
                      rw [← hg] at ha2 GE gb3 ⊢
                      clear hS0 hS1 hS2 hS3 s0 s1 s2 bds hil hkh hke j1 j2 j3 j4 eF NF r1 r2 hdl csl hJ wgl gb1 gb2 hg ocz jh n4 n5
                      go_wp2_with fail
                      refine (K1 _).mono ?_
                      rintro e w6 ⟨rfl, y1, hw6⟩
                      have HW6 := Lib.hid hw6
                      clear hw6
                      go_wp2_with fail
                      refine (K2 _).mono ?_
                      rintro e w7 ⟨rfl, y2, hw7⟩
                      have B7 : Hid (Below W.heap.size W w7) := Lib.hid (by rw [hw7, HW6.out]; exact below_drewN (below_drewN BE.out y1) y2)
                      clear hw7 HW6
                      go_wp2_with fail
                      go_roundw
                      case rel => exact ⟨L + 1, _, by omega, by go_num, by rw [GE.out], by rw [SE.out], NI, B7⟩
                      case measure => first | (simp [intOf]; done) | (simp [intOf]; omega)
                      -->>I
                  -->>D
        · --<<J
          rename_i hKK
          have HK := Lib.hid hKK
          clear hKK
          obtain rfl : k = hs.length := by omega
          have eT := hI.out.1
          rw [List.drop_length] at eT
          simp only [Tp.gfold, fmB, List.append_nil] at eT
          subst eT
          clear hI TS
          have sz := mk_size cs'
          have BW := Lib.hid (up_call B1.out hB.out)
          have FW := Lib.hid (F1.out.up hB.out)
          have hne := Lib.hid hlt
          clear hlt
          have E1 : Hid (4096 < cs'.length → _) := Lib.hid (fun h3 => fm_big HA.out HR.out (by rw [← HTT.out]; exact h3))
          have E2 : Hid (¬ 4096 < cs'.length → _) := Lib.hid (fun h3 => fm_ok HA.out HR.out (by rw [← HTT.out]; exact h3))
          have D := Lib.hid (FW.out.set2 0 0)
          obtain ⟨d0, d1, -, -, -⟩ := D.out
          obtain ⟨a0, a1, a2, a3, a4⟩ := FW.out
          clear g0 oc lt hl1 hC gr1 gr2
          go_wp2_with fail
          refine HK.out _ _ ?_
          clear HK
          go_wp2_with fail
          · rename_i h3
            have E := Lib.hid (E1.out (by omega))
            refine (at_any 10 (-1) _).mono ?_
            rintro e w9 ⟨rfl, hb9⟩
            have F9 := FW.out.up hb9
            have B9 := Lib.hid (up_call BW.out hb9)
            clear d0 d1 a0 a1 a2 a3 a4
            obtain ⟨d0, d1, -, -, -⟩ := F9.set2 10 (-1)
            obtain ⟨a0, a1, a2, a3, a4⟩ := F9
            clear hb9
            go_wp2_with fail
            refine bodyPost_ret (v := .tuple #[.string ByteArray.empty, .agg #[.int .i64 10, .int .i64 (-1)]]) (by simp [results, Tryd.results5, go_sem, d0, d1, emp]) rfl ⟨by rw [E.out.1, E.out.2.1, E.out.2.2], ?_⟩
            exact (B9.out.setCell (Nat.le_succ _) _).setCell (Nat.le_succ _) _
          · rename_i h3
            have E := Lib.hid (E2.out (by omega))
            rw [← HTT.out] at E
            refine bodyPost_ret (v := .tuple #[.string (Lin.mk cs'), .agg #[.int .i64 0, .int .i64 0]]) (by simp [results, Tryd.results5, go_sem, d0, d1]) rfl ⟨by rw [E.out.1, E.out.2.1, E.out.2.2], ?_⟩
            exact (BW.out.setCell (Nat.le_succ _) _).setCell (Nat.le_succ _) _
          -->>J
  · --<<N
    have E := Lib.hid (fm_app (c := c) ha)
    have hne : (Tp.aC hs t == 0) = false := by rw [beq_eq_false_iff_ne]; exact ha
    obtain ⟨d0, d1, -, -, -⟩ := F1.out.set2 (Tp.aC hs t) (Tp.aI hs t)
    obtain ⟨a0, a1, a2, a3, a4⟩ := F1.out
    obtain ⟨g0, g1, -, -, -⟩ := G1.out
    go_wp2_with fail
    go_region
    go_wp2_with fail
    refine bodyPost_ret (v := .tuple #[.string ByteArray.empty, .agg #[.int .i64 (Tp.aC hs t), .int .i64 (Tp.aI hs t)]]) (by simp [results, Tryd.results5, go_sem, d0, d1, emp]) rfl ⟨by rw [E.out.1, E.out.2.1, E.out.2.2], ?_⟩
    exact (B1.out.drew.setCell (Nat.le_succ _) _).setCell (Nat.le_succ _) _
    -->>N
end Go.Proofs.YtcheggdfcdokiaaDoor
