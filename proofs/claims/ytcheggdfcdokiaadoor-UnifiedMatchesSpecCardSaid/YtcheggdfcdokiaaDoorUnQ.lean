
/-
  The reference's Fuzzy, walked.
-/
import Derived.Test.YtcheggdfcdokiaaDoorUnB
import Derived.Test.YtcheggdfcdokiaaDoorUnR
import Derived.Test.YtcheggdfcdokiaaDoorTpD
import Derived.Deep.CutRange
import Derived.Deep.CutBlock
namespace Go.Proofs.YtcheggdfcdokiaaDoor.Tp
open Go.RowKit
set_option maxRecDepth 4000
/-- hunks that all have been moved to where they fit follow one another and fit -/
theorem oz_moves {t : List ByteArray} {R : Nat} (ht : t.length ≤ 120) : ∀ (hs : List H) (prev low : Int) (i : Nat) (acc ds' : List Int), Ch prev hs → 0 ≤ low → oz t R hs low i acc = (none, ds') →
    ∃ ds, ds' = acc ++ ds ∧ ds.length = hs.length ∧ Ch (low - 1) (mvs hs ds) ∧ ∀ h ∈ mvs hs ds, Has t h := by
  intro hs
  induction hs with
  | nil =>
    intro prev low i acc ds' _ _ h
    unfold oz at h
    cases h
    exact ⟨[], by rw [List.append_nil], rfl, trivial, fun h hh => by cases hh⟩
  | cons h r ih =>
    intro prev low i acc ds' hc hl e
    unfold oz at e
    cases e1 : off t R low h with
    | none => rw [e1] at e; cases e
    | some d =>
      rw [e1] at e
      dsimp only at e
      obtain ⟨k1, k2, k3⟩ := off_is e1
      have en1 : en (mv h d) = en h + d := mv_en h d
      have en2 := k2.hi
      have en3 := k2.lo
      have en4 : en (mv h d) = (mv h d).at' + (h.old.length : Int) := rfl
      have en5 : (mv h d).at' = h.at' + d := rfl
      obtain ⟨ds, f1, f2, f3, f4⟩ := ih (en h) (en h + d + 1) (i + 1) (acc ++ [d]) ds' hc.2 (by omega) e
      have em : mvs (h :: r) (d :: ds) = mv h d :: mvs r ds := rfl
      refine ⟨d :: ds, by rw [f1, List.append_assoc]; rfl, by rw [List.length_cons, List.length_cons, f2], ?_, ?_⟩
      · rw [em]
        refine ⟨⟨en3, by omega, hc.1.old, hc.1.new, hc.1.some', by omega, by omega⟩, ?_⟩
        rw [en1]
        have : en h + d + 1 - 1 = en h + d := by omega
        rwa [this] at f3
      · rw [em]
        intro x hx
        rcases List.mem_cons.1 hx with rfl | hx
        · exact k2
        · exact f4 x hx
theorem z_fault {t : List ByteArray} {hs : List H} {R : Nat} {ds : List Int} (h : pC hs = 0) (h2 : Lin.vC t = 0) (h4 : oz t R hs 0 0 [] = (none, ds)) : aC (mvs hs ds) t = 0 ∨ (aC (mvs hs ds) t = 10 ∧ aI (mvs hs ds) t = -1) := by
  have vp := pC_zero.1 h
  obtain ⟨ds', e1, e2, e3, e4⟩ := oz_moves (Lin.vC_zero h2).1 hs (-1) 0 0 [] ds vp.ch (Int.le_refl _) h4
  rw [List.nil_append] at e1
  subst e1
  have V : Vp (mvs hs ds) := ⟨by rw [mvs_len _ _ (by omega)]; have := vp.len; omega, e3⟩
  have c1 := pC_zero.2 V
  have c2 := (cf_none t (mvs hs ds) 0).2 e4
  have A : aC (mvs hs ds) t = if 120 < (ap t 0 (mvs hs ds)).length then 10 else 0 := by
    unfold aC
    rw [if_neg (by simp [c1]), if_neg (by simp [h2]), if_neg (by simp [c2])]
  have B : aI (mvs hs ds) t = if 120 < (ap t 0 (mvs hs ds)).length then -1 else 0 := by
    unfold aI
    rw [if_neg (by simp [c1]), if_neg (by simp [h2]), if_neg (by simp [c2])]
  rw [A, B]
  by_cases k : 120 < (ap t 0 (mvs hs ds)).length
  · rw [if_pos k, if_pos k]; exact .inr ⟨rfl, rfl⟩
  · rw [if_neg k]; exact .inl rfl
end Go.Proofs.YtcheggdfcdokiaaDoor.Tp
namespace Go.Proofs.YtcheggdfcdokiaaDoor
open Go.RowKit
set_option maxRecDepth 4000

set_option maxHeartbeats 1000000 in
theorem movedHunk_any (z m : Int) (o1 n1 : Option Addr) (o2 o3 n2 n3 : Nat) (w : World) (h1 : -100000000 ≤ z) (h2 : z ≤ 100000000) (h3 : -100000000 ≤ m) (h4 : m ≤ 100000000) :
    Calls Tryd.prog 31 #[.agg #[.int .i64 z, .slice o1 o2 o3, .slice n1 n2 n3], .int .i64 m] w (BPost (.agg #[.int .i64 (z + m), .slice o1 o2 o3, .slice n1 n2 n3]) w) := by
  have wz : IntKind.i64.wrap (z + m) = z + m := IntWalk.i64_in _ (by omega)
  have Z : Hz ((w.alloc (.cells #[.int .i64 z, .slice o1 o2 o3, .slice n1 n2 n3] 46 (0, 0))).alloc (.cells #[.int .i64 0, .slice none 0 0, .slice none 0 0] 46 (0, 0))) (w.heap.size + 1) := by
    have := Hz.new (w.alloc (.cells #[.int .i64 z, .slice o1 o2 o3, .slice n1 n2 n3] 46 (0, 0))) 46
    rwa [World.size_alloc] at this
  have U := (Hu.new w z (.slice o1 o2 o3) (.slice n1 n2 n3) 46).up (up_alloc (Below.refl _ _) (.cells #[.int .i64 0, .slice none 0 0, .slice none 0 0] 46 (0, 0)))
  obtain ⟨a0, a1, a2, a3, a4, a5, a6⟩ := Z
  obtain ⟨y0, y1, y2, y3⟩ := U
  go_enter Tryd.func31, Tryd.ntmps31
  go_wp2_with fail
  refine bodyPost_ret (v := .agg #[.int .i64 (z + m), .slice o1 o2 o3, .slice n1 n2 n3]) (by simp [results, Tryd.results31, go_sem]) rfl ⟨rfl, ?_⟩
  (repeat' (first | (with_reducible exact Below.refl _ _) | (with_reducible assumption) | (with_reducible refine below_drewN ?_ _) | (with_reducible refine Below.setCell ?_ ?_ _) | (with_reducible refine Below.alloc ?_ ?_ _) | (with_reducible refine Below.drew ?_) | go_size))

set_option maxRecDepth 100000 in
set_option maxHeartbeats 16000000 in
theorem refFuzzy_any (p pt : Option Addr) (hs : List Tp.H) (t : List ByteArray) (cap ct : Nat) (reach : Int) (w : World) (hp : Ptc w p hs) (hl : hs.length ≤ 2513169434845) (hq : Sts w pt t) (hc' : pt = none → ct = 0) (ht : t.length ≤ ct) :
    Calls Tryd.prog 7 #[.slice pt t.length ct, .agg #[.slice p hs.length cap], .int .i64 reach] w (FzPost t hs reach w) := by
  have HP := Lib.hid hp
  have HQ := Lib.hid hq
  have HC := Lib.hid hc'
  have HT := Lib.hid ht
  clear hp hq hc' ht
  have up0 : Below w.heap.size w ((w.alloc (.cells #[.slice p hs.length cap] 25 (0, 0))).alloc (.cells #[.int .i64 0, .int .i64 0] 27 (0, 0))) := up_alloc (up_alloc (Below.refl _ _) _) _
  have O0 : Hid (One ((w.alloc (.cells #[.slice p hs.length cap] 25 (0, 0))).alloc (.cells #[.int .i64 0, .int .i64 0] 27 (0, 0))) w.heap.size (.slice p hs.length cap)) := Lib.hid ((One.new w (.slice p hs.length cap) 25 w.heap.size rfl).alloc _)
  have F0 : Hid (Flt ((w.alloc (.cells #[.slice p hs.length cap] 25 (0, 0))).alloc (.cells #[.int .i64 0, .int .i64 0] 27 (0, 0))) (w.heap.size + 1) 0 0) := by
    have := Flt.new (w.alloc (.cells #[.slice p hs.length cap] 25 (0, 0))) 0 0 27
    rwa [World.size_alloc] at this
  have oc0 := O0.out.c
  go_enter Tryd.func7, Tryd.ntmps7
  go_wp2_with fail
  refine (refPatchFault_any p hs _ cap _ rfl (HP.out.mono up0) hl).mono ?_
  rintro e w1 ⟨rfl, hb1⟩
  have u1 := up_call up0 hb1
  have b1 := up_alloc (Below.refl w1.heap.size w1) (.cells #[.int .i64 (Tp.pC hs), .int .i64 (Tp.pI hs)] 27 (0, 0))
  have O1 := Lib.hid ((O0.out.up hb1).up b1)
  have F1 := Lib.hid ((F0.out.up hb1).up b1)
  have G1 := Lib.hid (Flt.new w1 (Tp.pC hs) (Tp.pI hs) 27)
  have B1 := Lib.hid (up_alloc u1 (.cells #[.int .i64 (Tp.pC hs), .int .i64 (Tp.pI hs)] 27 (0, 0)))
  have Z1 : Hid (w.heap.size + 1 < w1.heap.size) := Lib.hid (F0.out.up hb1).lt
  clear up0 hb1 O0 F0 u1 b1 oc0
  by_cases hp0 : Tp.pC hs = 0
  · --<<M
    have HP0 := Lib.hid hp0
    have VP := Lib.hid (Tp.pC_zero.1 hp0)
    obtain ⟨g0, g1, -, -, -⟩ := G1.out
    rw [hp0] at g0
    have hp1 : (Tp.pC hs == 0) = true := by rw [hp0]; rfl
    clear hp0
    go_wp2_with fail
    refine (linesCode_any pt t _ ct _ rfl (HQ.out.mono B1.out)).mono ?_
    rintro e w2 ⟨rfl, hb2⟩
    have B2 := Lib.hid (up_call B1.out hb2)
    have O2 := Lib.hid (O1.out.up hb2)
    have F2 := Lib.hid (F1.out.up hb2)
    clear hb2 O1 F1 G1 B1 g0 g1
    by_cases ht0 : Lin.vC t = 0
    · have HT0 := Lib.hid ht0
      have lt := (Lin.vC_zero ht0).1
      rw [ht0]
      clear ht0
      by_cases hr : reach < 0 ∨ 120 < reach
      · --<<R
        have E := Lib.hid (Tp.z_reach HP0.out HT0.out hr)
        by_cases h0 : reach < 0
        · have g0 : decide (reach < 0) = true := decide_eq_true h0
          clear hr h0
          go_wp2_with fail
          refine (at_any 3 (-3) _).mono ?_
          rintro e w9 ⟨rfl, hb9⟩
          have F9 := F2.out.up hb9
          have B9 := Lib.hid (up_call B2.out hb9)
          obtain ⟨d0, d1, -, -, -⟩ := F9.set2 3 (-3)
          obtain ⟨a0, a1, a2, a3, a4⟩ := F9
          clear hb9
          go_wp2_with fail
          refine bodyPost_ret (v := .tuple #[.slice none 0 0, .slice none 0 0, .agg #[.int .i64 3, .int .i64 (-3)]]) (by simp [results, Tryd.results7, go_sem, d0, d1]) rfl ⟨_, _, by rw [E.out.1, E.out.2.1], by rw [E.out.2.2.1]; exact World.ownsRow_nil _ _ _ _, by rw [E.out.2.2.2]; exact ownE_nil _ _ _, ?_⟩
          exact (B9.out.setCell (Nat.le_succ _) _).setCell (Nat.le_succ _) _
        · have g0 : decide (reach < 0) = false := decide_eq_false h0
          have g1 : decide (120 < reach) = true := decide_eq_true (by omega)
          clear hr h0
          go_wp2_with fail
          refine (at_any 3 (-3) _).mono ?_
          rintro e w9 ⟨rfl, hb9⟩
          have F9 := F2.out.up hb9
          have B9 := Lib.hid (up_call B2.out hb9)
          obtain ⟨d0, d1, -, -, -⟩ := F9.set2 3 (-3)
          obtain ⟨a0, a1, a2, a3, a4⟩ := F9
          clear hb9
          go_wp2_with fail
          refine bodyPost_ret (v := .tuple #[.slice none 0 0, .slice none 0 0, .agg #[.int .i64 3, .int .i64 (-3)]]) (by simp [results, Tryd.results7, go_sem, d0, d1]) rfl ⟨_, _, by rw [E.out.1, E.out.2.1], by rw [E.out.2.2.1]; exact World.ownsRow_nil _ _ _ _, by rw [E.out.2.2.2]; exact ownE_nil _ _ _, ?_⟩
          exact (B9.out.setCell (Nat.le_succ _) _).setCell (Nat.le_succ _) _
        -->>R
      · obtain ⟨R, rfl⟩ : ∃ R : Nat, reach = R := ⟨reach.toNat, by omega⟩
        have hR : R ≤ 120 := by omega
        have HR := Lib.hid hr
        clear hr
        have gr1 : decide ((R : Int) < 0) = false := decide_eq_false (by omega)
        have gr2 : decide ((120 : Int) < (R : Int)) = false := decide_eq_false (by omega)
        have wR : IntKind.i64.wrap ((R : Int) + 1) = (R : Int) + 1 := IntWalk.i64_in _ (by omega)
        have wn : IntKind.i64.wrap (-(R : Int)) = -(R : Int) := IntWalk.i64_in _ (by omega)
        have u3 := Lib.hid (up_alloc B2.out (.cells #[.slice none 0 0] 25 (0, 0)))
        have Z0 : Hid (Fz w2.heap.size (w2.alloc (.cells #[.slice none 0 0] 25 (0, 0))) (.slice none 0 0) [] (.slice none 0 0) []) := Lib.hid (by
          have := One.new w2 (.slice none 0 0) 25 w2.heap.size rfl
          exact Fz.start this.c this.f)
        have O4 := Lib.hid (O2.out.alloc (.cells #[.slice none 0 0] 25 (0, 0)))
        have F4 := Lib.hid (F2.out.alloc (.cells #[.slice none 0 0] 25 (0, 0)))
        have oc := O4.out.c
        have hf3 := F2.out.lt
        clear B2 O2 F2
        go_wp2_with fail
        obtain ⟨W, hW⟩ : ∃ W, W = w2.alloc (.cells #[.slice none 0 0] 25 (0, 0)) := ⟨_, rfl⟩
        have hWz : W.heap.size = w2.heap.size + 1 := by rw [hW]; simp
        rw [← hW] at u3 Z0 O4 F4 oc ⊢
        clear hW
        obtain ⟨pg, hpg⟩ : ∃ pg, pg = w2.heap.size := ⟨_, rfl⟩
        rw [← hpg] at Z0 hf3 ⊢
        have pg2 : pg < W.heap.size := by omega
        clear hpg hWz
        go_loopw [11, 13, 14] (fun vo lw i wr => ∃ (k : Nat) (lo : Int) (ds : List Int) (vq : Value), k ≤ hs.length ∧ i = .int .i64 k ∧ lw = .int .i64 lo ∧ vq = vo ∧ Hid (0 ≤ lo ∧ lo ≤ 500 ∧ ds.length = k ∧ Tp.oz t R (hs.drop k) lo k ds = Tp.oz t R hs 0 0 []) ∧ (∃ v rs, Hid (Fz pg wr v rs vq ds) ∧ Hid (Rows w (Tp.mvs hs ds) rs)) ∧ Hid (Below pg W wr)) (fun _ _ i _ => hs.length - (intOf i).toNat)
        case atStart => exact ⟨0, 0, [], _, Nat.zero_le _, rfl, rfl, rfl, Lib.hid ⟨by omega, by omega, rfl, rfl⟩, ⟨_, _, Z0, Lib.hid (by have := Rows.nil w; unfold Tp.mvs; simpa using this)⟩, Lib.hid (Below.refl _ _)⟩
        case round =>
          as_aux_lemma =>
          clear Z0
          obtain ⟨wo, rfl⟩ : ∃ wo, wo = wr := ⟨_, rfl⟩
          obtain ⟨k, lo, ds, vo, hk, rfl, rfl, rfl, hA, ⟨v, rs, hZ, hRw⟩, hB⟩ := hrel
          have b0 : (0 : Int) ≤ (k : Int) := by omega
          have uw : Hid (Below w.heap.size w wo) := Lib.hid (u3.out.trans (hB.out.mono (by omega)))
          have F5 := Lib.hid (F4.out.mono hB.out (by omega))
          have oco := (hB.out.cell (p := ⟨w.heap.size, 0, none⟩) (by show w.heap.size < pg; omega)).trans oc
          by_cases hlt : k < hs.length
          · have g1 : decide (k < hs.length) = true := by simpa using hlt
            have b1 : (k : Int) < (hs.length : Int) := by omega
            obtain ⟨b, off, rfl, hbb0, ⟨o1, o2, o3⟩, ⟨n1, n2, n3⟩, c0, c1, c2, r1, r2⟩ := HP.out.cell hlt
            replace c0 := (uw.out.cell (p := ⟨b, off + k * 3, none⟩) hbb0).trans c0
            replace c1 := (uw.out.cell (p := ⟨b, off + k * 3 + 1, none⟩) hbb0).trans c1
            replace c2 := (uw.out.cell (p := ⟨b, off + k * 3 + 2, none⟩) hbb0).trans c2
            obtain ⟨⟨pr, hok⟩, -⟩ := Tp.ch_at VP.out.ch k hlt
            have z0 := hok.lo
            have z1 := hok.hi
            have z2 := (Lin.vC_zero hok.old).1
            have z3 := (Lin.vC_zero hok.new).1
            obtain ⟨l0, l1, hdl, hoz⟩ := hA.out
            have SF := Lib.hid (fun e => (Tp.oz_stop (i := k) (acc := ds) (reach := R) (low := lo) (t := t) hlt e).symm.trans hoz)
            have SN := Lib.hid (fun d e => Tp.oz_next (d := d) hlt hdl lt l0 e hoz)
            clear hoz hok
            obtain ⟨⟨z, ol, nl⟩, hx⟩ : ∃ x, x = hs[k] := ⟨_, rfl⟩
            rw [← hx] at c0 r1 r2 z0 z1 z2 z3 SF SN
            have RO := Lib.hid r1
            have RN := Lib.hid r2
            obtain ⟨q1, e1, -, -⟩ := r1
            obtain ⟨q2, e2, -, -⟩ := r2
            dsimp only at e1 e2 q1 q2 c0 z0 z1 z2 z3 RO RN
            subst e1 e2
            simp only [sv] at c1 c2
            have hb5 := up_alloc (Below.refl wo.heap.size wo) (.cells #[.int .i64 z, .slice o1 ol.length o3, .slice n1 nl.length n3] 46 (0, 0))
            have HB5 := Lib.hid hb5
            have U5 := Lib.hid (Hu.new wo z (.slice o1 ol.length o3) (.slice n1 nl.length n3) 46)
            have F6 := Lib.hid (F5.out.up hb5)
            have Z5 := Lib.hid (hZ.out.up hb5)
            have uw5 := Lib.hid (up_alloc uw.out (.cells #[.int .i64 z, .slice o1 ol.length o3, .slice n1 nl.length n3] 46 (0, 0)))
            have FR5 : Hid ((wo.alloc (.cells #[.int .i64 z, .slice o1 ol.length o3, .slice n1 nl.length n3] 46 (0, 0))).frozen? ⟨wo.heap.size, 0, none⟩ = false) := Lib.hid (by rw [World.frozen?_alloc_mark]; rfl)
            have QO := Lib.hid q1
            have BB := Lib.hid (hB.out.trans (hb5.mono (by have := hB.out.size; omega)))
            have nHP : wo.heap.size ≠ pg := by have := hZ.out.lt; omega
            have hll : ol.length ≤ 120 := by first | omega | (dsimp only at z2; omega)
            have hzz : 0 ≤ z ∧ z ≤ 120 := by omega
            clear q1 q2 hx hb5
            have ocr := cell_up oco (.cells #[.int .i64 z, .slice o1 ol.length o3, .slice n1 nl.length n3] 46 (0, 0))
            go_wp2_with fail
            obtain ⟨X, hX⟩ : ∃ X, X = wo.alloc (.cells #[.int .i64 z, .slice o1 ol.length o3, .slice n1 nl.length n3] 46 (0, 0)) := ⟨_, rfl⟩
            rw [← hX] at U5 F6 Z5 uw5 HB5 BB FR5 ocr ⊢
            clear hX
            go_loopw [16, 17] (fun bs d wq => ∃ B D : Int, bs = .int .i64 B ∧ d = .int .i64 D ∧ Hid (-(R : Int) ≤ D ∧ D ≤ (R : Int) + 1 ∧ Tp.Bs t lo ⟨z, ol, nl⟩ R D B ∧ B ≤ (R : Int) + 1 ∧ -(R : Int) ≤ B) ∧ Hid (Below X.heap.size X wq)) (fun _ d _ => ((R : Int) + 1 - intOf d).toNat)
            case atStart => exact ⟨(R : Int) + 1, -(R : Int), rfl, rfl, Lib.hid ⟨by omega, by omega, Tp.Bs.start _ _ _ _, by omega, by omega⟩, Lib.hid (Below.refl _ _)⟩
            case round =>
              as_aux_lemma =>
              obtain ⟨B, D, rfl, rfl, hI, hBq⟩ := hrel
              by_cases hd : D ≤ (R : Int)
              · --<<I
                have i1 : decide (D ≤ (R : Int)) = true := decide_eq_true hd
                obtain ⟨x0, x1, x2, x3⟩ := U5.out.up hBq.out
                obtain ⟨I1, I2, I3, I4, I5⟩ := hI.out
                have wz : IntKind.i64.wrap (z + D) = z + D := IntWalk.i64_in _ (by omega)
                have wd : IntKind.i64.wrap (D + 1) = D + 1 := IntWalk.i64_in _ (by omega)
                have BS := Lib.hid I3
                clear I3
                by_cases hz : lo ≤ z + D
                · have g4 : decide (lo ≤ z + D) = true := decide_eq_true hz
                  have hh := Tp.fit_has (t := t) (h := ⟨z, ol, nl⟩) (low := lo) (d := D) hz
                  have hm : Tp.mv ⟨z, ol, nl⟩ D = ⟨z + D, ol, nl⟩ := rfl
                  rw [hm] at hh
                  have CO := Lib.hid (refHas_any pt o1 t ⟨z + D, ol, nl⟩ t.length ct ol.length o3 wr rfl rfl (HQ.out.mono (up_call uw5.out hBq.out)) (QO.out.mono (up_call uw5.out hBq.out)) HT.out (by dsimp only; omega) (by dsimp only; omega) (by dsimp only; omega))
                  cases e : Tp.has t ⟨z + D, ol, nl⟩ with
                  | true =>
                    rw [e] at CO hh
                    have AB : Hid (∀ V : World, Calls Tryd.prog 30 #[.int .i64 B] V fun e w' => e = .returned (.int .i64 (B.natAbs : Nat)) ∧ w' = V) := Lib.hid (fun V => refAbs_any B V (by omega) (by omega))
                    have AD : Hid (∀ V : World, Calls Tryd.prog 30 #[.int .i64 D] V fun e w' => e = .returned (.int .i64 (D.natAbs : Nat)) ∧ w' = V) := Lib.hid (fun V => refAbs_any D V (by omega) (by omega))
                    by_cases ha : D.natAbs < B.natAbs
                    · have NI : Hid (-(R : Int) ≤ D + 1 ∧ D + 1 ≤ (R : Int) + 1 ∧ Tp.Bs t lo ⟨z, ol, nl⟩ R (D + 1) D ∧ D ≤ (R : Int) + 1 ∧ -(R : Int) ≤ D) := Lib.hid ⟨by omega, by omega, BS.out.hit I1 hh ha, by omega, I1⟩
                      have g5 : decide ((D.natAbs : Int) < (B.natAbs : Int)) = true := decide_eq_true (by omega)
                      have g6 : decide (D.natAbs < B.natAbs) = true := decide_eq_true ha
                      have MM : Hid (((R : Int) + 1 - (D + 1)).toNat < ((R : Int) + 1 - D).toNat) := Lib.hid (by omega)
                      clear hh hm e hz I1 I2 I4 I5 hd ha
                      go_wp2_with fail
                      refine CO.out.mono ?_
                      rintro e w7 ⟨rfl, y, rfl⟩
                      go_wp2_with fail
                      refine (AD.out _).mono ?_
                      rintro e w7 ⟨rfl, rfl⟩
                      go_wp2_with fail
                      refine (AB.out _).mono ?_
                      rintro e w7 ⟨rfl, rfl⟩
                      go_wp2_with fail
                      go_roundw
                      case rel => exact ⟨D, D + 1, rfl, by go_num, NI, Lib.hid (below_drewN hBq.out y)⟩
                      case measure => exact MM.out
                    · have NI : Hid (-(R : Int) ≤ D + 1 ∧ D + 1 ≤ (R : Int) + 1 ∧ Tp.Bs t lo ⟨z, ol, nl⟩ R (D + 1) B ∧ B ≤ (R : Int) + 1 ∧ -(R : Int) ≤ B) := Lib.hid ⟨by omega, by omega, BS.out.miss I1 hd (.inr (by omega)), I4, I5⟩
                      have g5 : decide ((D.natAbs : Int) < (B.natAbs : Int)) = false := decide_eq_false (by omega)
                      have g6 : decide (D.natAbs < B.natAbs) = false := decide_eq_false ha
                      have MM : Hid (((R : Int) + 1 - (D + 1)).toNat < ((R : Int) + 1 - D).toNat) := Lib.hid (by omega)
                      clear hh hm e hz I1 I2 I4 I5 hd ha
                      go_wp2_with fail
                      refine CO.out.mono ?_
                      rintro e w7 ⟨rfl, y, rfl⟩
                      go_wp2_with fail
                      refine (AD.out _).mono ?_
                      rintro e w7 ⟨rfl, rfl⟩
                      go_wp2_with fail
                      refine (AB.out _).mono ?_
                      rintro e w7 ⟨rfl, rfl⟩
                      go_wp2_with fail
                      go_roundw
                      case rel => exact ⟨B, D + 1, rfl, by go_num, NI, Lib.hid (below_drewN hBq.out y)⟩
                      case measure => exact MM.out
                  | false =>
                    rw [e] at CO hh
                    have NI : Hid (-(R : Int) ≤ D + 1 ∧ D + 1 ≤ (R : Int) + 1 ∧ Tp.Bs t lo ⟨z, ol, nl⟩ R (D + 1) B ∧ B ≤ (R : Int) + 1 ∧ -(R : Int) ≤ B) := Lib.hid ⟨by omega, by omega, BS.out.miss I1 hd (.inl hh), I4, I5⟩
                    have MM : Hid (((R : Int) + 1 - (D + 1)).toNat < ((R : Int) + 1 - D).toNat) := Lib.hid (by omega)
                    clear hh hm e hz I1 I2 I4 I5 hd
                    go_wp2_with fail
                    refine CO.out.mono ?_
                    rintro e w7 ⟨rfl, y, rfl⟩
                    go_wp2_with fail
                    go_roundw
                    case rel => exact ⟨B, D + 1, rfl, by go_num, NI, Lib.hid (below_drewN hBq.out y)⟩
                    case measure => exact MM.out
                · have g4 : decide (lo ≤ z + D) = false := decide_eq_false hz
                  have NI : Hid (-(R : Int) ≤ D + 1 ∧ D + 1 ≤ (R : Int) + 1 ∧ Tp.Bs t lo ⟨z, ol, nl⟩ R (D + 1) B ∧ B ≤ (R : Int) + 1 ∧ -(R : Int) ≤ B) := Lib.hid ⟨by omega, by omega, BS.out.miss I1 hd (.inl (Tp.fit_low hz)), I4, I5⟩
                  have MM : Hid (((R : Int) + 1 - (D + 1)).toNat < ((R : Int) + 1 - D).toNat) := Lib.hid (by omega)
                  clear hz I1 I2 I4 I5 hd
                  go_wp2_with fail
                  go_roundw
                  case rel => exact ⟨B, D + 1, rfl, by go_num, NI, hBq⟩
                  case measure => exact MM.out
                -->>I
              · --<<X
                obtain rfl : D = (R : Int) + 1 := by have := hI.out.2.1; omega
                have i1 : decide ((R : Int) + 1 ≤ (R : Int)) = false := decide_eq_false (by omega)
                have BD := hI.out.2.2.1.done
                have BN := hI.out.2.2.2
                rename_i hKK
                have HK := Lib.hid hKK
                clear hKK hI hd
                have uwX := Lib.hid (up_call uw5.out hBq.out)
                rcases BD with ⟨k1, k2⟩ | ⟨k1, k2⟩
                · --<<Y
                  have gB : decide ((R : Int) < B) = false := decide_eq_false (by omega)
                  obtain ⟨SN1, SN2, SN3, SN4, SN5, SN6⟩ := SN.out B k2
                  try dsimp only at SN1
                  try dsimp only at SN2
                  try dsimp only at SN4
                  try dsimp only at SN5
                  have S1 := Lib.hid SN1
                  have S2 := Lib.hid SN2
                  have S3 := Lib.hid SN3
                  clear k2 SN1 SN2 SN3
                  have wd : IntKind.i64.wrap (z + (ol.length : Int) + B) = z + (ol.length : Int) + B := IntWalk.i64_in _ (by omega)
                  have we : IntKind.i64.wrap (z + (ol.length : Int) + B + 1) = z + (ol.length : Int) + B + 1 := IntWalk.i64_in _ (by omega)
                  have U6 := Lib.hid (U5.out.up hBq.out)
                  have Z6 := Lib.hid (Z5.out.up hBq.out)
                  have nv : v.ownBlock ≠ some wo.heap.size := fun e => by have := own_block hZ.out.own _ e; omega
                  have nvo : vo.ownBlock ≠ some wo.heap.size := fun e => by have := own_block hZ.out.ints _ e; omega
                  have HVL := Lib.hid (show v.ownBlock ≠ some pg from fun e => by have := own_block hZ.out.own _ e; omega)
                  have BB6 := Lib.hid (BB.out.trans (hBq.out.mono (by have := BB.out.size; omega)))
                  have NV := Lib.hid (And.intro nv nvo)
                  have lrs : Hid (rs.length ≤ 130 ∧ ds.length ≤ 130) := Lib.hid (by have := hRw.out.len; rw [Tp.mvs_len _ _ (by omega)] at this; have := VP.out.len; omega)
                  have MV := Lib.hid (fun X => movedHunk_any z B o1 n1 ol.length o3 nl.length n3 X (by omega) (by omega) (by omega) (by omega))
                  clear nv nvo c0 c1 c2 ocr
                  go_wp2_with (at_builtin; refine Halt.out ?_)
                  refine HK.out _ _ ?_
                  clear HK
                  go_wp2_with (at_builtin; refine Halt.out ?_)
                  refine ⟨?_⟩
                  obtain ⟨lr1, lr2⟩ := lrs.out
                  have bz6 := BB6.out.size
                  refine wp_appE_at intE rfl (.tmp 89) (.tmp 91) rfl (pg + 1) vo ds B _ 1 rfl (Z6.out.ints.alloc _) rfl (int_one wr wr.heap.size rfl B _) (by simp [intE]; omega) (by omega) (by rw [World.size_alloc]; omega) ?_
                  intro v3 w8 own3 gr3 hat3
                  have G3 : wr.grownBy w8 vo.ownBlock := grow_trans (World.grownBy_alloc wr _ none) gr3
                  have Z8 := Lib.hid (Z6.out.more G3 own3)
                  have U8 := Lib.hid (U6.out.grown G3 NV.out.2)
                  have BB8 := Lib.hid (BB6.out.grown G3 (by omega) (fun b hb => by have := own_block Z6.out.ints _ hb; omega))
                  clear own3 gr3 hat3 G3 Z6 U6 BB6 bz6
                  obtain ⟨x0, x1, x2, x3⟩ := U8.out
                  have yp := Z8.out.pc
                  have yf := Z8.out.pf
                  have bz8 := BB8.out.size
                  go_wp2_with fail
                  go_region_law (first
                    | (refine step_appE hkE _ (by rfl) (.tmp 94) (.tmp 98) (by rfl) (pg + 1) v rs ((z + B), (o1, ol.length, o3), (n1, nl.length, n3)) ⟨wA.heap.size, 0, none⟩ 1 (by rfl) (ZA.out.own.alloc _) (by rfl) (hunk_one _ _ (o1, ol.length, o3) (n1, nl.length, n3) _) (by simp [hkE]; omega) (by first | omega | (simp; omega)) (by simp; omega) (wA.heap.size + 1) (by simp) ?_
                       intro gg cc w9 own2 gr2 hat2 hlt2
                       have G4 : World.grownBy wA w9 v.ownBlock := by refine grow_trans ?_ gr2; exact ⟨rfl, rfl, rfl, by simp, fun k hk _ => Below.heap_alloc _ _ _ hk⟩
                       have s3 := G4.cell pcA (Ne.symm HVL.out)
                       have s4 : w9.frozen? ⟨pg, 0, none⟩ = false := by rw [G4.frozen_far ⟨pg, 0, none⟩ (by dsimp only; omega) (Ne.symm HVL.out), pfA])
                    | (go_simp
                       go_at_call 31
                       refine (MV.out _).mono ?_
                       rintro e wA ⟨rfl, hbA⟩
                       have BA : Hid (Below w8.heap.size w8 wA) := Lib.hid ((Below.refl _ _).drew.trans hbA)
                       have ZA := Lib.hid (Z8.out.up BA.out)
                       have pcA := ZA.out.pc
                       have pfA := ZA.out.pf
                       have hzA := BA.out.size
                       have qA := cell_up pcA (.cells #[.int .i64 (z + B), .slice o1 ol.length o3, .slice n1 nl.length n3] 46 (0, 0))
                       clear hbA))
                  all_goals
                    obtain ⟨c7, f7, z7⟩ := ZA.out.push G4 own2
                    have Z9 := Lib.hid z7
                    have U9 := Lib.hid (((U8.out.up BA.out).grown G4 NV.out.1).far (k := 0) (g' := pg) (Ne.symm nHP) (.slice (some ⟨gg, 0, none⟩) (rs.length + 1) cc))
                    have BB9 := Lib.hid (((BB8.out.trans (BA.out.mono (by have := BB8.out.size; omega))).grown G4 (by omega) (fun b hb => by have := own_block ZA.out.own _ hb; omega)).setCell (p := ⟨pg, 0, none⟩) (by exact Nat.le_refl _) (.slice (some ⟨gg, 0, none⟩) (rs.length + 1) cc))
                    clear own2 gr2 hat2 hlt2 G4 s3 s4 z7 c7 f7 qA x0 x1 x2 x3
                    obtain ⟨x0, x1, x2, x3⟩ := U9.out
                    go_wp2_with fail
                    refine (refEnd_any z o1 n1 ol.length o3 nl.length n3 _ (by omega) (by omega) (by omega)).mono ?_
                    rintro e w11 ⟨rfl, hb11⟩
                    have Z11 := Lib.hid (Z9.out.up hb11)
                    have BB11 := Lib.hid (BB9.out.trans (hb11.mono (by have := BB9.out.size; omega)))
                    have EA : Hid (0 ≤ z + (ol.length : Int) + B + 1 ∧ z + (ol.length : Int) + B + 1 ≤ 500 ∧ (ds ++ [B]).length = k + 1 ∧ Tp.oz t R (hs.drop (k + 1)) (z + (ol.length : Int) + B + 1) (k + 1) (ds ++ [B]) = Tp.oz t R hs 0 0 []) := Lib.hid (by
                      refine ⟨by omega, by omega, S3.out, ?_⟩
                      have := S1.out
                      rwa [show Tp.en (⟨z, ol, nl⟩ : Tp.H) + B + 1 = z + (ol.length : Int) + B + 1 by unfold Tp.en; rfl] at this)
                    have RW2 : Hid (Rows w (Tp.mvs hs (ds ++ [B])) (rs ++ [(z + B, (o1, ol.length, o3), (n1, nl.length, n3))])) := Lib.hid (by rw [S2.out]; exact hRw.out.snoc (x := Tp.mv ⟨z, ol, nl⟩ B) RO.out RN.out)
                    clear hb11 x0 x1 x2 x3
                    go_wp2_with fail
                    go_roundw
                    case rel => exact ⟨k + 1, _, ds ++ [B], _, hlt, by go_num, rfl, rfl, EA, ⟨_, _, Z11, RW2⟩, BB11⟩
                    case measure => first | (simp [intOf]; done) | (simp [intOf]; omega)
                  -->>Y
                · --<<Z
                  subst k1
                  have gB : decide ((R : Int) < (R : Int) + 1) = true := decide_eq_true (by omega)
                  have E := Lib.hid (Tp.z_conf HP0.out HT0.out HR.out (by rw [Int.toNat_natCast, ← SF.out k2]))
                  clear k2
                  go_wp2_with fail
                  refine HK.out _ _ ?_
                  clear HK
                  go_wp2_with fail
                  refine (at_any 19 (k : Int) _).mono ?_
                  rintro e w9 ⟨rfl, hb9⟩
                  have F9 := (F6.out.up hBq.out).up hb9
                  have B9 := Lib.hid (up_call uwX.out hb9)
                  obtain ⟨d0, d1, -, -, -⟩ := F9.set2 19 (k : Int)
                  obtain ⟨a0, a1, a2, a3, a4⟩ := F9
                  clear hb9
                  go_wp2_with fail
                  refine bodyPost_ret (v := .tuple #[.slice none 0 0, .slice none 0 0, .agg #[.int .i64 19, .int .i64 (k : Int)]]) (by simp [results, Tryd.results7, go_sem, d0, d1]) rfl ⟨_, _, by rw [E.out.1, E.out.2.1], by rw [E.out.2.2.1]; exact World.ownsRow_nil _ _ _ _, by rw [E.out.2.2.2]; exact ownE_nil _ _ _, ?_⟩
                  exact (B9.out.setCell (Nat.le_succ _) _).setCell (Nat.le_succ _) _
                  -->>Z
                -->>X
          · --<<W
            have g1 : decide (k < hs.length) = false := by simpa using hlt
            have g2 : decide ((k : Int) < (hs.length : Int)) = false := decide_eq_false (by omega)
            obtain ⟨l0, l1, hdl, hoz⟩ := hA.out
            have h4 : Tp.oz t R hs 0 0 [] = (none, ds) := by rw [← hoz, List.drop_eq_nil_of_le (by omega)]; rfl
            have E := Lib.hid (Tp.z_app HP0.out HT0.out HR.out (by rw [Int.toNat_natCast]; exact h4))
            have AF := Lib.hid (Tp.z_fault HP0.out HT0.out h4)
            obtain ⟨pv, cv, rfl, hrow, -, -, -⟩ := row_of_own hZ.out.own
            obtain ⟨po, co, rfl, -, -, -, -⟩ := row_of_own hZ.out.ints
            have PT := Lib.hid ((hRw.out.mono uw.out).ptc hrow)
            have LR := Lib.hid hRw.out.len
            have lrs : (Tp.mvs hs ds).length ≤ 2513169434845 := by rw [Tp.mvs_len _ _ (by omega)]; have := VP.out.len; omega
            have pc := hZ.out.pc
            rename_i hKK
            have HK := Lib.hid hKK
            clear hKK hoz h4 hrow hdl l0 l1
            go_wp2_with fail
            refine HK.out _ _ ?_
            clear HK
            go_wp2_with fail
            refine (refApply_any pv pt (Tp.mvs hs ds) t rs.length cv t.length ct _ LR.out rfl PT.out lrs (HQ.out.mono uw.out) HC.out HT.out).mono ?_
            rintro e w3 ⟨vs, rfl, own3, hb3⟩
            obtain ⟨ps, cs, rfl, -, -⟩ := ownS_shape own3
            have OW := Lib.hid own3
            have OI := Lib.hid (hZ.out.ints.up hb3)
            have u5 := Lib.hid (up_call uw.out hb3)
            have F6 := Lib.hid (F5.out.up hb3)
            have hzr := uw.out.size
            have hzp := hZ.out.lt
            have hz3 := hb3.size
            have F7 := Lib.hid (F6.out.alloc (.cells #[.int .i64 (Tp.aC (Tp.mvs hs ds) t), .int .i64 (Tp.aI (Tp.mvs hs ds) t)] 27 (0, 0)))
            have G7 := Lib.hid (Flt.new w3 (Tp.aC (Tp.mvs hs ds) t) (Tp.aI (Tp.mvs hs ds) t) 27)
            have u7 := Lib.hid (up_alloc u5.out (.cells #[.int .i64 (Tp.aC (Tp.mvs hs ds) t), .int .i64 (Tp.aI (Tp.mvs hs ds) t)] 27 (0, 0)))
            clear own3 hb3 pc
            by_cases ha : Tp.aC (Tp.mvs hs ds) t = 0
            · --<<U
              have hai := Tp.aI_zero ha
              obtain ⟨g0, g3, -, -, -⟩ := G7.out
              have hne : (Tp.aC (Tp.mvs hs ds) t == 0) = true := by rw [ha]; rfl
              obtain ⟨d0, d1, -, -, -⟩ := F7.out.set2 0 0
              obtain ⟨a0, a1, a2, a3, a4⟩ := F7.out
              have EZ : Hid (Tp.zO t hs R = ds) := Lib.hid (by rw [E.out.2.2.2, if_pos ha])
              have EC : Hid (Tp.zC t hs R = 0 ∧ Tp.zI t hs R = 0) := Lib.hid ⟨by rw [E.out.1, ha], by rw [E.out.2.1, hai]⟩
              clear ha hai
              go_wp2_with fail
              refine bodyPost_ret (v := .tuple #[.slice ps (Tp.aT (Tp.mvs hs ds) t).length cs, .slice po ds.length co, .agg #[.int .i64 0, .int .i64 0]]) (by simp [results, Tryd.results7, go_sem, d0, d1]) rfl ⟨_, _, by rw [EC.out.1, EC.out.2], ?_, ?_, ?_⟩
              · rw [E.out.2.2.1]
                exact ownS_le (ownsRow_setCell_below (ownsRow_setCell_below (ownS_up OW.out (up_alloc (Below.refl _ _) _)) (a := ⟨w.heap.size + 1, 0, none⟩) (by dsimp only; omega) _) (a := ⟨w.heap.size + 1, 1, none⟩) (by dsimp only; omega) _) hzr
              · rw [EZ.out]
                exact OwnE.le (ownsRow_setCell_below (ownsRow_setCell_below (OI.out.alloc _) (a := ⟨w.heap.size + 1, 0, none⟩) (by dsimp only; omega) _) (a := ⟨w.heap.size + 1, 1, none⟩) (by dsimp only; omega) _) (by omega)
              · exact (u7.out.setCell (by first | omega | (dsimp only; omega)) _).setCell (by first | omega | (dsimp only; omega)) _
              -->>U
            · --<<V
              obtain ⟨g0, g3, -, -, -⟩ := G7.out
              have hne : (Tp.aC (Tp.mvs hs ds) t == 0) = false := by rw [beq_eq_false_iff_ne]; exact ha
              have EZ : Hid (Tp.zO t hs R = [] ∧ Tp.zT t hs R = []) := Lib.hid ⟨by rw [E.out.2.2.2, if_neg ha], by rw [E.out.2.2.1]; unfold Tp.aT; rw [if_neg ha]⟩
              have EC : Hid (Tp.zC t hs R = 10 ∧ Tp.zI t hs R = -1) := Lib.hid (by
                rcases AF.out with k | ⟨k1, k2⟩
                · exact absurd k ha
                · exact ⟨by rw [E.out.1, k1], by rw [E.out.2.1, k2]⟩)
              clear ha
              go_wp2_with fail
              refine (at_any 10 (-1) _).mono ?_
              rintro e w9 ⟨rfl, hb9⟩
              have F9 := F7.out.up hb9
              have B9 := Lib.hid (up_call u7.out hb9)
              obtain ⟨d0, d1, -, -, -⟩ := F9.set2 10 (-1)
              obtain ⟨a0, a1, a2, a3, a4⟩ := F9
              clear hb9
              go_wp2_with fail
              refine bodyPost_ret (v := .tuple #[.slice none 0 0, .slice none 0 0, .agg #[.int .i64 10, .int .i64 (-1)]]) (by simp [results, Tryd.results7, go_sem, d0, d1]) rfl ⟨_, _, by rw [EC.out.1, EC.out.2], by rw [EZ.out.2]; exact World.ownsRow_nil _ _ _ _, by rw [EZ.out.1]; exact ownE_nil _ _ _, ?_⟩
              exact (B9.out.setCell (Nat.le_succ _) _).setCell (Nat.le_succ _) _
              -->>V
            -->>W
    · --<<T
      have E := Lib.hid (Tp.z_text (reach := reach) HP0.out ht0)
      have hne : (Lin.vC t == 0) = false := by rw [beq_eq_false_iff_ne]; exact ht0
      clear ht0
      go_wp2_with fail
      refine (at_any (Lin.vC t) (-2) _).mono ?_
      rintro e w9 ⟨rfl, hb9⟩
      have F9 := F2.out.up hb9
      have B9 := Lib.hid (up_call B2.out hb9)
      obtain ⟨d0, d1, -, -, -⟩ := F9.set2 (Lin.vC t) (-2)
      obtain ⟨a0, a1, a2, a3, a4⟩ := F9
      clear hb9
      go_wp2_with fail
      refine bodyPost_ret (v := .tuple #[.slice none 0 0, .slice none 0 0, .agg #[.int .i64 (Lin.vC t), .int .i64 (-2)]]) (by simp [results, Tryd.results7, go_sem, d0, d1]) rfl ⟨_, _, by rw [E.out.1, E.out.2.1], by rw [E.out.2.2.1]; exact World.ownsRow_nil _ _ _ _, by rw [E.out.2.2.2]; exact ownE_nil _ _ _, ?_⟩
      exact (B9.out.setCell (Nat.le_succ _) _).setCell (Nat.le_succ _) _
      -->>T
    -->>M
  · --<<N
    have E := Lib.hid (Tp.z_patch (t := t) (reach := reach) hp0)
    have hne : (Tp.pC hs == 0) = false := by rw [beq_eq_false_iff_ne]; exact hp0
    obtain ⟨d0, d1, -, -, -⟩ := F1.out.set2 (Tp.pC hs) (Tp.pI hs)
    obtain ⟨a0, a1, a2, a3, a4⟩ := F1.out
    obtain ⟨g0, g1, -, -, -⟩ := G1.out
    clear hp0
    go_wp2_with fail
    go_region
    go_wp2_with fail
    refine bodyPost_ret (v := .tuple #[.slice none 0 0, .slice none 0 0, .agg #[.int .i64 (Tp.pC hs), .int .i64 (Tp.pI hs)]]) (by simp [results, Tryd.results7, go_sem, d0, d1]) rfl ⟨_, _, by rw [E.out.1, E.out.2.1], by rw [E.out.2.2.1]; exact World.ownsRow_nil _ _ _ _, by rw [E.out.2.2.2]; exact ownE_nil _ _ _, ?_⟩
    exact (B1.out.drew.setCell (Nat.le_succ _) _).setCell (Nat.le_succ _) _
    -->>N
end Go.Proofs.YtcheggdfcdokiaaDoor
