
/-
  The reference's Apply, walked.
-/
import Derived.Test.YtcheggdfcdokiaaDoorTpC
namespace Go.Proofs.YtcheggdfcdokiaaDoor
open Go.RowKit
set_option maxRecDepth 4000

set_option maxRecDepth 100000 in
set_option maxHeartbeats 8000000 in
theorem refApply_any (p pt : Option Addr) (hs : List Tp.H) (t : List ByteArray) (n cap m cap' : Nat) (w : World) (hn : n = hs.length) (hm : m = t.length) (hp : Ptc w p hs) (hl : hs.length ≤ 2513169434845) (hq : Sts w pt t) (hc' : pt = none → cap' = 0) (ht : t.length ≤ cap') :
    Calls Tryd.prog 20 #[.agg #[.slice p n cap], .slice pt m cap'] w (ApPost hs t w) := by
  subst hn hm
  have HP := Lib.hid hp
  have HQ := Lib.hid hq
  have HC := Lib.hid hc'
  have HT := Lib.hid ht
  clear hp hq hc' ht
  have up0 : Below w.heap.size w ((w.alloc (.cells #[.slice p hs.length cap] 25 (0, 0))).alloc (.cells #[.int .i64 0, .int .i64 0] 27 (0, 0))) := up_alloc (up_alloc (Below.refl _ _) _) _
  have O0 : Hid (One ((w.alloc (.cells #[.slice p hs.length cap] 25 (0, 0))).alloc (.cells #[.int .i64 0, .int .i64 0] 27 (0, 0))) w.heap.size (.slice p hs.length cap)) := Lib.hid ((One.new w (.slice p hs.length cap) 25 w.heap.size rfl).alloc _)
  have F0 : Hid (Flt ((w.alloc (.cells #[.slice p hs.length cap] 25 (0, 0))).alloc (.cells #[.int .i64 0, .int .i64 0] 27 (0, 0))) (w.heap.size + 1) 0 0) := by
    have := Flt.new (w.alloc (.cells #[.slice p hs.length cap] 25 (0, 0))) 0 0 27
    rwa [World.size_alloc] at this
  go_enter Tryd.func20, Tryd.ntmps20
  go_wp2_with fail
  refine (refPatchFault_any p hs _ cap _ rfl (HP.out.mono up0) hl).mono ?_
  rintro e w1 ⟨rfl, hb1⟩
  have u1 := up_call up0 hb1
  have O1 := Lib.hid (O0.out.up hb1)
  have F1 := Lib.hid (F0.out.up hb1)
  have v1 := up_alloc u1 (.cells #[.int .i64 (Tp.pC hs), .int .i64 (Tp.pI hs)] 27 (0, 0))
  have hz1 := u1.size
  clear up0 hb1 O0 F0
  by_cases hp0 : Tp.pC hs = 0
  · have VP := Lib.hid (Tp.pC_zero.1 hp0)
    have HP0 := Lib.hid hp0
    rw [hp0] at v1 ⊢
    clear hp0
    have O2 := Lib.hid (O1.out.alloc (.cells #[.int .i64 0, .int .i64 (Tp.pI hs)] 27 (0, 0)))
    have F2 := Lib.hid (F1.out.alloc (.cells #[.int .i64 0, .int .i64 (Tp.pI hs)] 27 (0, 0)))
    go_wp2_with fail
    refine (linesCode_any pt t _ _ _ rfl (HQ.out.mono v1)).mono ?_
    rintro e w2 ⟨rfl, hb2⟩
    have u2 := up_call v1 hb2
    have O3 := Lib.hid (O2.out.up hb2)
    have F3 := Lib.hid (F2.out.up hb2)
    clear v1 hb2 O1 F1 O2 F2 u1 hz1
    have hz2 := u2.size
    by_cases ht0 : Lin.vC t = 0
    · have HT0 := Lib.hid ht0
      have lt := (Lin.vC_zero ht0).1
      rw [ht0]
      clear ht0
      go_wp2_with fail
      go_loopw [8] (fun i wr => ∃ k : Nat, k ≤ hs.length ∧ i = .int .i64 k ∧ Hid (Tp.cf t (hs.drop k) k = Tp.cf t hs 0) ∧ Hid (∃ nq, wr = w2.drewN nq)) (fun i _ => hs.length - (intOf i).toNat)
      case atStart => exact ⟨0, Nat.zero_le _, rfl, Lib.hid rfl, Lib.hid ⟨0, rfl⟩⟩
      case round =>
        obtain ⟨k, hk, rfl, hcf, nq0, hw⟩ := hrel
        have b0 : (0 : Int) ≤ (k : Int) := by omega
        have u3 : Below w.heap.size w wr := by rw [hw]; exact below_drewN u2 _
        have O4 : Hid (One wr w.heap.size (.slice p hs.length cap)) := Lib.hid (by rw [hw]; exact O3.out.drewN _)
        have F4 : Hid (Flt wr (w.heap.size + 1) 0 0) := Lib.hid (by rw [hw]; exact F3.out.drewN _)
        have hz3 := u3.size
        have HW := Lib.hid hw
        have oc := O4.out.c
        clear hw
        by_cases hlt : k < hs.length
        · have g1 : decide (k < hs.length) = true := by simpa using hlt
          have b1 : (k : Int) < (hs.length : Int) := by omega
          obtain ⟨b, off, rfl, hbb, ⟨o1, o2, o3⟩, nn, c0, c1, -, r1, -⟩ := (HP.out.mono u3).cell hlt
          obtain ⟨⟨pr, hok⟩, -⟩ := Tp.ch_at VP.out.ch k hlt
          have cn := cf_next t hs k hlt
          rw [hcf.out] at cn
          have z0 := hok.lo
          have z1 := hok.hi
          have z2 := (Lin.vC_zero hok.old).1
          obtain ⟨x, hx⟩ : ∃ x, x = hs[k] := ⟨_, rfl⟩
          rw [← hx] at c0 r1 cn z0 z1 z2
          obtain ⟨q1, e1, -, -⟩ := r1
          dsimp only at e1 q1
          subst e1
          simp only [sv] at c1
          have Q1 := Lib.hid q1
          have CN := Lib.hid cn
          clear hok hx q1 cn nn hcf
          cases hh : Tp.has t x
          · have R := Lib.hid (aC_c HP0.out HT0.out (by rw [CN.out, hh]; rfl : Tp.cf t hs 0 = some k))
            have CT : ∀ m, Calls Tryd.prog 29 #[.slice pt t.length cap', .int .i64 x.at', .slice o1 x.old.length o3] (wr.drewN m) (QPost (.bool false) (wr.drewN m)) := fun m => by
              have := refHas_any pt o1 t x _ cap' _ o3 (wr.drewN m) rfl rfl (sts_drew (HQ.out.mono u3) _) (sts_drew Q1.out _) HT.out z0 (by omega) (by omega)
              rwa [hh] at this
            have CH := Lib.hid CT
            clear CT
            go_wp2_with fail
            go_quiet ((go_at_call 29; exact Calls.quiet_of (CH.out _)))
            go_wp2_with fail
            refine (at_any _ _ _).mono ?_
            rintro e wF ⟨rfl, hbF⟩
            obtain ⟨d0, d1, -, -, -⟩ := ((F4.out.drewN nq).up hbF).set2 (19) ((k : Int))
            obtain ⟨a0, a1, a2, a3, a4⟩ := (F4.out.drewN nq).up hbF
            have uF := up_call (below_drewN u3 nq) hbF
            go_wp2_with fail
            refine bodyPost_ret (v := .tuple #[.slice none 0 0, .agg #[.int .i64 (19), .int .i64 ((k : Int))]]) (by simp [results, Tryd.results20, go_sem, d0, d1]) rfl ⟨_, by rw [R.out.1, R.out.2.1], by rw [R.out.2.2]; exact World.ownsRow_nil _ _ _ _, ?_⟩
            exact (uF.setCell (by first | omega | (dsimp only; omega)) _).setCell (by first | omega | (dsimp only; omega)) _
          · have R : Hid (Tp.cf t (hs.drop (k + 1)) (k + 1) = Tp.cf t hs 0) := Lib.hid (by rw [CN.out, hh]; rfl)
            have CT : ∀ m, Calls Tryd.prog 29 #[.slice pt t.length cap', .int .i64 x.at', .slice o1 x.old.length o3] (wr.drewN m) (QPost (.bool true) (wr.drewN m)) := fun m => by
              have := refHas_any pt o1 t x _ cap' _ o3 (wr.drewN m) rfl rfl (sts_drew (HQ.out.mono u3) _) (sts_drew Q1.out _) HT.out z0 (by omega) (by omega)
              rwa [hh] at this
            have CH := Lib.hid CT
            clear CT
            go_wp2_with fail
            go_quiet ((go_at_call 29; exact Calls.quiet_of (CH.out _)))
            go_wp2_with fail
            go_roundw
            case rel => exact ⟨k + 1, hlt, by go_num, R, Lib.hid ⟨nq0 + nq, by rw [HW.out, World.drewN_drewN]⟩⟩
            case measure => first | (simp [intOf]; done) | (simp [intOf]; omega)
        · have g1 : decide (k < hs.length) = false := by simpa using hlt
          have CN : Hid (Tp.cf t hs 0 = none) := Lib.hid (by rw [← hcf.out, List.drop_eq_nil_of_le (by omega)]; rfl)
          have FIT := Lib.hid ((Tp.cf_none t hs 0).1 CN.out)
          have BW : Hid (Below w2.heap.size w2 wr) := Lib.hid (by rw [HW.out]; exact below_drewN (Below.refl _ _) _)
          have EMP := Lib.hid (ownS_empty wr wr.heap.size w2.heap.size rfl (by rw [HW.out]; exact Nat.le_refl _))
          have u4 := up_alloc u3 (.cells #[] 9 (0, 0))
          have oc2 := cell_up oc (.cells #[] 9 (0, 0))
          clear hcf hlt HW
          go_wp2_with (at_builtin; refine wp_appS rfl (.tmp 49) (.tmp 50) rfl w2.heap.size _ [] t pt cap' rfl EMP.out rfl (HQ.out.mono u4) HC.out (by simp; omega) (by have := BW.out.size; simp; omega) ?_; intro vo wo own0 bel0
                       have B0 := Lib.hid ((BW.out.alloc BW.out.size (.cells #[] 9 (0, 0))).trans bel0)
                       have OWN : Hid (OwnS w2.heap.size wo vo t) := Lib.hid (by simpa using own0)
                       have oc3 := (O3.out.up B0.out).c
                       clear own0 bel0)
          clear EMP u4 oc2 BW O4 F4 u3
          go_loopw [9, 10] (fun o i wr => ∃ K : Nat, K ≤ hs.length ∧ i = .int .i64 ((K : Int) - 1) ∧ Hid (OwnS w2.heap.size wr o (Tp.ap t 0 (hs.drop K))) ∧ Hid (Below w2.heap.size w2 wr)) (fun _ i _ => (intOf i + 1).toNat)
          case atStart => exact ⟨hs.length, Nat.le_refl _, by go_num, Lib.hid (by rw [List.drop_length]; exact OWN.out), B0⟩
          case round =>
            clear OWN B0 oc3 hz3
            obtain ⟨K, hK, rfl, own, hB⟩ := hrel
            have O4 := Lib.hid (O3.out.up hB.out)
            have F4 := Lib.hid (F3.out.up hB.out)
            have oc := O4.out.c
            have hzr := hB.out.size
            have hf3 := F3.out.lt
            by_cases h0 : K = 0
            · subst h0
              have g0 : decide ((0 : Int) ≤ ((0 : Nat) : Int) - 1) = false := by decide
              rw [List.drop_zero] at own
              have uw := u2.trans (hB.out.mono hz2)
              obtain ⟨l, hl'⟩ : ∃ l, l = Tp.ap t 0 hs := ⟨_, rfl⟩
              rw [← hl'] at own
              obtain ⟨po, co, rfl, -, -⟩ := ownS_shape own.out
              by_cases hlong : 120 < l.length
              · have R := Lib.hid (aC_l HP0.out HT0.out CN.out (by rw [← hl']; exact hlong))
                have g5 : decide ((120 : Int) < (l.length : Int)) = true := by rw [decide_eq_true_iff]; omega
                clear hl' hlong
                go_wp2_with fail
                refine (at_any _ _ _).mono ?_
                rintro e wF ⟨rfl, hbF⟩
                obtain ⟨d0, d1, -, -, -⟩ := ((F4.out).up hbF).set2 (10) (-1)
                obtain ⟨a0, a1, a2, a3, a4⟩ := (F4.out).up hbF
                have uF := up_call (uw) hbF
                go_wp2_with fail
                refine bodyPost_ret (v := .tuple #[.slice none 0 0, .agg #[.int .i64 (10), .int .i64 (-1)]]) (by simp [results, Tryd.results20, go_sem, d0, d1]) rfl ⟨_, by rw [R.out.1, R.out.2.1], by rw [R.out.2.2]; exact World.ownsRow_nil _ _ _ _, ?_⟩
                exact (uF.setCell (by first | omega | (dsimp only; omega)) _).setCell (by first | omega | (dsimp only; omega)) _
              · have R := Lib.hid (aC_o HP0.out HT0.out CN.out (by rw [← hl']; exact hlong))
                have g5 : decide ((120 : Int) < (l.length : Int)) = false := by rw [decide_eq_false_iff_not]; omega
                have HL := Lib.hid hl'
                clear hl' hlong
                obtain ⟨d0, d1, -, -, -⟩ := F4.out.set2 0 0
                obtain ⟨a0, a1, a2, a3, a4⟩ := F4.out
                go_wp2_with fail
                refine bodyPost_ret (v := .tuple #[.slice po l.length co, .agg #[.int .i64 0, .int .i64 0]]) (by simp [results, Tryd.results20, go_sem, d0, d1]) rfl ⟨_, by rw [R.out.1, R.out.2.1], ?_, ?_⟩
                · rw [R.out.2.2, ← HL.out]
                  exact ownS_le (ownsRow_setCell_below (ownsRow_setCell_below own.out (a := ⟨w.heap.size + 1, 0, none⟩) (by dsimp only; omega) _) (a := ⟨w.heap.size + 1, 1, none⟩) (by dsimp only; omega) _) hz2
                · exact (uw.setCell (by first | omega | (dsimp only; omega)) _).setCell (by first | omega | (dsimp only; omega)) _
            · obtain ⟨k, rfl⟩ : ∃ k, K = k + 1 := ⟨K - 1, by omega⟩
              have e1 : (((k + 1 : Nat) : Int) - 1) = (k : Int) := by omega
              rw [e1]
              clear h0
              have g0 : decide ((0 : Int) ≤ (k : Int)) = true := by rw [decide_eq_true_iff]; omega
              have b0' : (0 : Int) ≤ (k : Int) := by omega
              have b1 : (k : Int) < (hs.length : Int) := by omega
              obtain ⟨b, off, rfl, hbb, ⟨o1, o2, o3⟩, ⟨n1, n2, n3⟩, c0, c1, c2, r1, r2⟩ := (HP.out.mono (u2.trans (hB.out.mono hz2))).cell (show k < hs.length by omega)
              obtain ⟨⟨pr, hok⟩, -⟩ := Tp.ch_at VP.out.ch k (show k < hs.length by omega)
              have ab := Tp.ap_back t hs (-1) VP.out.ch k (by omega) (FIT.out _ (List.getElem_mem _))
              have z0 := hok.lo
              have z1 := hok.hi
              have z2 := (Lin.vC_zero hok.old).1
              have z3 := (Lin.vC_zero hok.new).1
              have bd := Tp.ap_bound t (hs.drop (k + 1)) (fun x hx => (Lin.vC_zero (Tp.ch_new VP.out.ch x (List.mem_of_mem_drop hx)).1).1) 0
              have hlen := VP.out.len
              rw [List.length_drop] at bd
              obtain ⟨⟨z, ol, nl⟩, hx⟩ : ∃ x, x = hs[k]'(by omega) := ⟨_, rfl⟩
              rw [← hx] at c0 r1 r2 ab z0 z1 z2 z3
              obtain ⟨q1, e1', -, -⟩ := r1
              obtain ⟨q2, e2', k2, -⟩ := r2
              dsimp only at e1' e2' q1 q2 k2 c0 z0 z1 z2 z3 ab
              subst e1' e2'
              simp only [sv] at c1 c2
              obtain ⟨zn, rfl⟩ : ∃ zn : Nat, z = zn := ⟨z.toNat, by omega⟩
              have een : (Tp.en (⟨(zn : Int), ol, nl⟩ : Tp.H)).toNat = zn + ol.length := by unfold Tp.en; simp only; omega
              rw [een, Int.toNat_natCast] at ab
              obtain ⟨l, hl'⟩ : ∃ l, l = Tp.ap t 0 (hs.drop (k + 1)) := ⟨_, rfl⟩
              rw [← hl'] at ab own bd
              have HLL := Lib.hid hl'
              obtain ⟨ab1, ab2, ab3⟩ := ab
              have lb : l.length ≤ 100000 := by
                have : (hs.length - (k + 1) + 1) * (t.length + 120) ≤ 131 * 240 := Nat.mul_le_mul (by omega) (by omega)
                omega
              have AB := Lib.hid ab1
              obtain ⟨po, co, rfl, hco, hlc⟩ := ownS_shape own.out
              have Q2 := Lib.hid q2
              have K2 := Lib.hid k2
              have HCO := Lib.hid hco
              clear hx hok q1 q2 k2 ab1 een hl' hco bd pr
              have U2 := Lib.hid ((Hu.new wr (zn : Int) (.slice o1 ol.length o3) (.slice n1 nl.length n3) 46).up ((Below.refl _ _).alloc (Nat.le_refl _) (.cells #[] 9 (0, 0))))
              have E2 := Lib.hid (ownS_empty (wr.alloc (.cells #[.int .i64 (zn : Int), .slice o1 ol.length o3, .slice n1 nl.length n3] 46 (0, 0))) (wr.heap.size + 1) (wr.heap.size + 1) (by simp) (by simp))
              have B2 : Hid (Below wr.heap.size wr ((wr.alloc (.cells #[.int .i64 (zn : Int), .slice o1 ol.length o3, .slice n1 nl.length n3] 46 (0, 0))).alloc (.cells #[] 9 (0, 0)))) := Lib.hid (up_alloc (up_alloc (Below.refl _ _) _) _)
              have hzw2 : ((wr.alloc (.cells #[.int .i64 (zn : Int), .slice o1 ol.length o3, .slice n1 nl.length n3] 46 (0, 0))).alloc (.cells #[] 9 (0, 0))).heap.size = wr.heap.size + 2 := by simp
              have SML := Lib.hid (Tp.ap_small VP.out HT0.out 0 (k + 1))
              go_wp2_with fail
              refine (refEnd_any (zn : Int) o1 n1 ol.length o3 nl.length n3 _ z0 (by omega) (by omega)).mono ?_
              rintro e w4 ⟨rfl, hb4⟩
              have B4 := Lib.hid (B2.out.trans (hb4.mono (by rw [hzw2]; omega)))
              have OW4 := Lib.hid (ownS_up own.out B4.out)
              have E4 := Lib.hid (ownS_up E2.out hb4)
              have U4 := Lib.hid (U2.out.up hb4)
              have hz4 := hb4.size
              rw [hzw2] at hz4
              have hsl : ∀ x ∈ l, x.size ≤ 140737488351232 := by rw [HLL.out]; exact SML.out
              have S4 := Lib.hid ((ownS_sts OW4.out hsl (by omega)).from (zn + ol.length) co ab2 hlc)
              have sE := fun w => run_from po l.length co (zn + ol.length) ab2 w
              rw [show ((zn + ol.length : Nat) : Int) = (zn : Int) + (ol.length : Int) by omega] at sE
              have cE := fun h => sAt_none (p := po) (k := zn + ol.length) (cap := co) HCO.out h
              have HSL := Lib.hid hsl
              have CE := Lib.hid cE
              have OBK := Lib.hid (own_blk own.out)
              clear hsl cE own B2 E2 U2 SML hb4
              obtain ⟨y0, y1, y2, y3⟩ := U4.out
              go_wp2_with (at_builtin; refine wp_appS rfl (.tmp 65) (.tmp 69) rfl (wr.heap.size + 1) (.slice (some ⟨wr.heap.size + 1, 0, none⟩) 0 0) [] (l.drop (zn + ol.length)) (sAt po (zn + ol.length) co) (co - (zn + ol.length)) (by first | rfl | simp) E4.out (by first | rfl | (show Value.slice _ (l.length - (zn + ol.length)) _ = _; rw [List.length_drop])) S4.out CE.out (by rw [List.length_drop]; simp; omega) (by omega) ?_; intro v5 w5 own5 bel5
                           obtain ⟨pr, cr, rfl, hcr, -⟩ := ownS_shape own5
                           have z0' := (bel5.cell (p := ⟨wr.heap.size, 0, none⟩) (by dsimp only; omega)).trans y0
                           have z2' := (bel5.cell (p := ⟨wr.heap.size, 2, none⟩) (by dsimp only; omega)).trans y2)
              rw [List.nil_append] at own5
              have B5 := Lib.hid (B4.out.trans (bel5.mono (Nat.le_succ _)))
              have hz5 := bel5.size
              have OW5 := ownS_keep OW4.out bel5 (fun b hb => by have := OBK.out b hb; omega)
              have T5 := Lib.hid (ownS_up (ownS_take OW5 zn (by omega)) (Below.refl _ _).drew)
              have RS5 := Lib.hid (ownS_sts own5 (fun x hx => HSL.out x (List.mem_of_mem_drop hx)) (by rw [List.length_drop]; omega))
              have RB5 := Lib.hid (own_blk own5)
              have N5 := Lib.hid ((Q2.out.mono B5.out).mono (Below.refl _ _).drew)
              have sU := fun w => run_upto po l.length co zn (by omega) w
              have hl1 : (l.take zn).length + nl.length ≤ 8796093022208 := by rw [List.length_take]; omega
              have hl2 : (l.take zn ++ nl).length + (l.drop (zn + ol.length)).length ≤ 8796093022208 := by rw [List.length_append, List.length_take, List.length_drop]; omega
              have HL1 := Lib.hid hl1
              have HL2 := Lib.hid hl2
              have HCR := Lib.hid hcr
              clear hl1 hl2 OW5 own5 bel5 hcr OW4 E4 S4 sE y0 y1 y2 y3 U4
              have obk2 : ∀ b, (Value.slice po zn co).ownBlock = some b → b < wr.heap.size := fun b hb => (OBK.out b (by cases po <;> exact hb)).2
              have KEEP : Hid (∀ w6, w5.drew.grownBy w6 (Value.slice po zn co).ownBlock → Sts w6 pr (l.drop (zn + ol.length))) := Lib.hid (fun w6 gr6 => by
                refine RS5.out.kept gr6.size (fun a ha => ?_)
                obtain ⟨r1, r2⟩ := RB5.out a.block (by subst ha; rfl)
                exact gr6.block _ r2 (fun e => by have := obk2 a.block e.symm; omega))
              clear obk2
              go_region_law (first
                | (skip; refine step_appSs (by rfl) (.tmp 74) (.tmp 76) (by rfl) w2.heap.size (.slice po zn co) (l.take zn) nl n1 n3 (by rfl) T5.out (by rfl) N5.out K2.out HL1.out (by simp; omega) ?_; intro v6 w6 own6 gr6
                   have RS6 := Lib.hid (KEEP.out w6 gr6)
                   have O6 := Lib.hid own6
                   have G6 := Lib.hid gr6
                   clear own6 gr6)
                | (skip; refine step_appSs (by rfl) (.tmp 77) (.tmp 78) (by rfl) w2.heap.size v6 (l.take zn ++ nl) (l.drop (zn + ol.length)) pr cr (by rfl) O6.out (by first | rfl | (show Value.slice _ (l.length - (zn + ol.length)) _ = _; rw [List.length_drop])) RS6.out HCR.out HL2.out (by have := G6.out.size; simp at this; omega) ?_; intro v7 w7 own7 gr7
                   have O7 := Lib.hid own7
                   have G7 := Lib.hid gr7
                   clear own7 gr7))
              all_goals
                have C5 : Below w2.heap.size w2 w5.drew := (hB.out.trans (B5.out.mono hzr)).drew
                have hc5 := C5.size
                have C6 := C5.grown G6.out hc5 (fun b hb => (own_blk T5.out b hb.symm.symm).1)
                have hc6 := C6.size
                have B7 := Lib.hid (C6.grown G7.out hc6 (fun b hb => (own_blk O6.out b hb).1))
                have O8 : Hid (OwnS w2.heap.size w7 v7 (Tp.ap t 0 (hs.drop k))) := Lib.hid (by rw [AB.out]; exact O7.out)
                clear C5 C6 hc5 hc6
                go_wp2_with fail
                go_roundw
                case rel => exact ⟨k, by omega, by go_num, O8, B7⟩
                case measure => first | (simp [intOf]; done) | (simp [intOf]; omega)
    · have E := Lib.hid (aC_t HP0.out ht0)
      have g1 : (Lin.vC t != 0) = true := by simpa using ht0
      clear ht0
      go_wp2_with fail
      refine (at_any _ _ _).mono ?_
      rintro e wF ⟨rfl, hbF⟩
      obtain ⟨d0, d1, -, -, -⟩ := ((F3.out).up hbF).set2 (Lin.vC t) (-2)
      obtain ⟨a0, a1, a2, a3, a4⟩ := (F3.out).up hbF
      have uF := up_call (u2) hbF
      go_wp2_with fail
      refine bodyPost_ret (v := .tuple #[.slice none 0 0, .agg #[.int .i64 (Lin.vC t), .int .i64 (-2)]]) (by simp [results, Tryd.results20, go_sem, d0, d1]) rfl ⟨_, by rw [E.out.1, E.out.2.1], by rw [E.out.2.2]; exact World.ownsRow_nil _ _ _ _, ?_⟩
      exact (uF.setCell (by first | omega | (dsimp only; omega)) _).setCell (by first | omega | (dsimp only; omega)) _
  · have E := Lib.hid (aC_p (t := t) hp0)
    obtain ⟨d0, d1, -, -, -⟩ := (F1.out.set2 (Tp.pC hs) (Tp.pI hs)).alloc (.cells #[.int .i64 (Tp.pC hs), .int .i64 (Tp.pI hs)] 27 (0, 0))
    obtain ⟨a0, a1, a2, a3, a4⟩ := F1.out
    have g1 : (Tp.pC hs != 0) = true := by simpa using hp0
    clear hp0
    go_wp2_with fail
    go_region
    go_wp2_with fail
    refine bodyPost_ret (v := .tuple #[.slice none 0 0, .agg #[.int .i64 (Tp.pC hs), .int .i64 (Tp.pI hs)]]) (by simp [results, Tryd.results20, go_sem, d0, d1]) rfl ⟨_, by rw [E.out.1, E.out.2.1], by rw [E.out.2.2]; exact World.ownsRow_nil _ _ _ _, ?_⟩
    (repeat' (first | (with_reducible exact Below.refl _ _) | (with_reducible assumption) | (with_reducible refine below_drewN ?_ _) | (with_reducible refine Below.setCell ?_ ?_ _) | (with_reducible refine Below.alloc ?_ ?_ _) | (with_reducible refine Below.drew ?_) | go_size))
end Go.Proofs.YtcheggdfcdokiaaDoor
