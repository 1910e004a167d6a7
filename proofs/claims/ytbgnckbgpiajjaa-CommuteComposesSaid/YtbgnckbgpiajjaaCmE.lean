/-
  The program's Commute, walked.
-/
import Derived.Test.YtbgnckbgpiajjaaCmD
import Derived.Deep.RegionHeld3
namespace Go.Proofs.Ytbgnckbgpiajjaa
open Go.RowKit
set_option maxRecDepth 4000

theorem put_three {w : World} {g1 g2 g : Nat} {u u' v v' : Value} {c i : Int} (h : Flt w g c i) (o1 : One w g1 u) (o2 : One w g2 u') (n1 : g1 ≠ g2) (n2 : g1 ≠ g) (n3 : g2 ≠ g) (x y : Int) :
    ((((w.setCell ⟨g1, 0, none⟩ v).setCell ⟨g2, 0, none⟩ v').setCell ⟨g, 0, none⟩ (.int .i64 x)).setCell ⟨g, 1, none⟩ (.int .i64 y)).cell? ⟨g1, 0, none⟩ = some v ∧
    ((((w.setCell ⟨g1, 0, none⟩ v).setCell ⟨g2, 0, none⟩ v').setCell ⟨g, 0, none⟩ (.int .i64 x)).setCell ⟨g, 1, none⟩ (.int .i64 y)).cell? ⟨g2, 0, none⟩ = some v' ∧
    ((((w.setCell ⟨g1, 0, none⟩ v).setCell ⟨g2, 0, none⟩ v').setCell ⟨g, 0, none⟩ (.int .i64 x)).setCell ⟨g, 1, none⟩ (.int .i64 y)).cell? ⟨g, 0, none⟩ = some (.int .i64 x) ∧
    ((((w.setCell ⟨g1, 0, none⟩ v).setCell ⟨g2, 0, none⟩ v').setCell ⟨g, 0, none⟩ (.int .i64 x)).setCell ⟨g, 1, none⟩ (.int .i64 y)).cell? ⟨g, 1, none⟩ = some (.int .i64 y) := by
  have a1 : ∀ j k, (⟨g1, j, none⟩ : Addr) ≠ ⟨g, k, none⟩ := fun j k e => n2 (by cases e; rfl)
  have a2 : ∀ j k, (⟨g2, j, none⟩ : Addr) ≠ ⟨g, k, none⟩ := fun j k e => n3 (by cases e; rfl)
  have a3 : (⟨g1, 0, none⟩ : Addr) ≠ ⟨g2, 0, none⟩ := fun e => n1 (by cases e; rfl)
  have f1 := (h.put (g' := g1) n2 v).put (g' := g2) n3 v'
  have f2 := f1.set2 x y
  refine ⟨?_, ?_, f2.c0, f2.c1⟩
  · rw [World.cell?_setCell_other (h := (a1 _ _).symm), World.cell?_setCell_other (h := (a1 _ _).symm), World.cell?_setCell_other (h := a3.symm), World.cell?_setCell_same (h := o1.c)]
  · rw [World.cell?_setCell_other (h := (a2 _ _).symm), World.cell?_setCell_other (h := (a2 _ _).symm)]
    exact World.cell?_setCell_same _ _ _ (by rw [World.cell?_setCell_other (h := a3)]; exact o2.c)

theorem PtAt.drew {base : Nat} {w : World} {p : Option Addr} {hs : List Tp.H} (h : PtAt base w p hs) : PtAt base w.drew p hs := fun W h1 h2 => h W h1 h2
theorem gb_vp {cs : List Tp.Cg} (hl : cs.length ≤ 130) (h : ∀ c ∈ cs, -120 ≤ c.gr ∧ c.gr ≤ 120) (a : Int) : -15600 ≤ Tp.gb a cs ∧ Tp.gb a cs ≤ 15600 := by
  have key : ∀ l : List Tp.Cg, (∀ x ∈ l, -120 ≤ x.gr ∧ x.gr ≤ 120) → -(120 * l.length : Int) ≤ Tp.gb a l ∧ Tp.gb a l ≤ 120 * l.length := by
    intro l
    induction l with
    | nil => intro _; simp [Tp.gb]
    | cons x r ih =>
      intro hx
      have h1 := hx x (List.mem_cons_self ..)
      have h2 := ih (fun y hy => hx y (List.mem_cons_of_mem _ hy))
      simp only [Tp.gb, List.length_cons]
      split <;> omega
  have := key cs h
  omega
theorem vp_bounds {hs : List Tp.H} (h : Tp.Vp hs) : ∀ k ∈ hs, 0 ≤ k.at' ∧ k.at' ≤ 120 ∧ k.old.length ≤ 120 ∧ k.new.length ≤ 120 := fun x hx => by
  obtain ⟨j, hj, rfl⟩ := List.mem_iff_getElem.1 hx
  obtain ⟨⟨pr, hok⟩, -⟩ := Tp.ch_at h.ch j hj
  exact ⟨hok.lo, hok.hi, (Lin.vC_zero hok.old).1, (Lin.vC_zero hok.new).1⟩
theorem bd_xa {hs ks : List Tp.H} (h : Tp.Vp hs) (k : Tp.Vp ks) : Bd (Tp.bh ks (Tp.cg (Tp.iv 0 hs))) := by
  refine ⟨by rw [bh_len]; have := k.len; omega, fun x hx => ?_⟩
  obtain ⟨y, hy, rfl⟩ := List.mem_map.1 hx
  have b := vp_bounds k y hy
  have g := gb_vp (cs := Tp.cg (Tp.iv 0 hs)) (by unfold Tp.cg; rw [List.length_map, Tp.iv_len]; exact h.len) (fun c hc => by
    obtain ⟨z, hz, rfl⟩ := List.mem_map.1 hc
    obtain ⟨j, hj, rfl⟩ := List.mem_iff_getElem.1 hz
    have hj' : j < hs.length := by rwa [Tp.iv_len] at hj
    rw [Tp.iv_get hs 0 j hj' hj]
    have := vp_bounds h _ (List.getElem_mem hj')
    unfold Tp.chg
    dsimp only
    omega) y.at'
  dsimp only
  omega

set_option maxRecDepth 100000 in
set_option maxHeartbeats 16000000 in
theorem cmCommute_any (p q : Option Addr) (hs ks : List Tp.H) (n cap m cap' : Nat) (w : World) (hn : n = hs.length) (hm : m = ks.length) (hp : Ptc w p hs) (hq : Ptc w q ks) (hl : hs.length ≤ 2513169434845) (hl' : ks.length ≤ 2513169434845) :
    Calls Try.prog 37 #[.agg #[.slice p n cap], .agg #[.slice q m cap']] w (ExPost hs ks w) := by
  subst hn hm
  have HP := Lib.hid hp
  have HQ := Lib.hid hq
  clear hp hq
  have up0 : Below w.heap.size w (((((w.alloc (.cells #[.slice p hs.length cap] 41 (0, 0))).alloc (.cells #[.slice q ks.length cap'] 41 (0, 0))).alloc (.cells #[.slice none 0 0] 41 (0, 0))).alloc (.cells #[.slice none 0 0] 41 (0, 0))).alloc (.cells #[.int .i64 0, .int .i64 0] 25 (0, 0))) := up_alloc (up_alloc (up_alloc (up_alloc (up_alloc (Below.refl _ _) _) _) _) _) _
  have O0 := Lib.hid (((One.new w (.slice p hs.length cap) 41 w.heap.size rfl).alloc (.cells #[.slice q ks.length cap'] 41 (0, 0))).alloc (.cells #[.slice none 0 0] 41 (0, 0)) |>.alloc (.cells #[.slice none 0 0] 41 (0, 0)) |>.alloc (.cells #[.int .i64 0, .int .i64 0] 25 (0, 0)))
  have S0 := Lib.hid ((One.new (w.alloc (.cells #[.slice p hs.length cap] 41 (0, 0))) (.slice q ks.length cap') 41 (w.heap.size + 1) (by simp)).alloc (.cells #[.slice none 0 0] 41 (0, 0)) |>.alloc (.cells #[.slice none 0 0] 41 (0, 0)) |>.alloc (.cells #[.int .i64 0, .int .i64 0] 25 (0, 0)))
  have R0 := Lib.hid ((One.new ((w.alloc (.cells #[.slice p hs.length cap] 41 (0, 0))).alloc (.cells #[.slice q ks.length cap'] 41 (0, 0))) (.slice none 0 0) 41 (w.heap.size + 1 + 1) (by simp)).alloc (.cells #[.slice none 0 0] 41 (0, 0)) |>.alloc (.cells #[.int .i64 0, .int .i64 0] 25 (0, 0)))
  have T0 := Lib.hid ((One.new (((w.alloc (.cells #[.slice p hs.length cap] 41 (0, 0))).alloc (.cells #[.slice q ks.length cap'] 41 (0, 0))).alloc (.cells #[.slice none 0 0] 41 (0, 0))) (.slice none 0 0) 41 (w.heap.size + 1 + 1 + 1) (by simp)).alloc (.cells #[.int .i64 0, .int .i64 0] 25 (0, 0)))
  have F0 : Hid (Flt (((((w.alloc (.cells #[.slice p hs.length cap] 41 (0, 0))).alloc (.cells #[.slice q ks.length cap'] 41 (0, 0))).alloc (.cells #[.slice none 0 0] 41 (0, 0))).alloc (.cells #[.slice none 0 0] 41 (0, 0))).alloc (.cells #[.int .i64 0, .int .i64 0] 25 (0, 0))) (w.heap.size + 1 + 1 + 1 + 1) 0 0) := by
    have := Flt.new ((((w.alloc (.cells #[.slice p hs.length cap] 41 (0, 0))).alloc (.cells #[.slice q ks.length cap'] 41 (0, 0))).alloc (.cells #[.slice none 0 0] 41 (0, 0))).alloc (.cells #[.slice none 0 0] 41 (0, 0))) 0 0 25
    rw [World.size_alloc, World.size_alloc, World.size_alloc, World.size_alloc] at this
    exact this
  go_enter Try.func37, Try.ntmps37
  go_wp2_with fail
  obtain ⟨w0, hw0⟩ : ∃ w0, w0 = ((((w.alloc (.cells #[.slice p hs.length cap] 41 (0, 0))).alloc (.cells #[.slice q ks.length cap'] 41 (0, 0))).alloc (.cells #[.slice none 0 0] 41 (0, 0))).alloc (.cells #[.slice none 0 0] 41 (0, 0))).alloc (.cells #[.int .i64 0, .int .i64 0] 25 (0, 0)) := ⟨_, rfl⟩
  rw [← hw0] at up0 O0 S0 R0 T0 F0 ⊢
  clear hw0
  have oc := O0.out.c
  have sc := S0.out.c
  go_wp2_with fail
  refine (cmValidate_any p q hs ks _ cap _ cap' _ rfl rfl (HP.out.mono up0) (HQ.out.mono up0) hl hl').mono ?_
  rintro e w1 ⟨rfl, hb1⟩
  have u1 := up_call up0 hb1
  have O1 := Lib.hid (O0.out.up hb1)
  have S1 := Lib.hid (S0.out.up hb1)
  have R1 := Lib.hid (R0.out.up hb1)
  have T1 := Lib.hid (T0.out.up hb1)
  have F1 := Lib.hid (F0.out.up hb1)
  have hf1 := F1.out.lt
  clear up0 hb1 O0 S0 R0 T0 F0 oc sc
  by_cases hp0 : Tp.prC hs ks = 0
  · have HP0 := Lib.hid hp0
    have VV := Lib.hid (Tp.prC_zero.1 hp0)
    have hpi : Tp.prI hs ks = 0 := by
      unfold Tp.prI
      rw [if_pos (Tp.pC_zero.2 VV.out.1), if_pos (Tp.pC_zero.2 VV.out.2)]
    rw [hp0, hpi]
    clear hp0 hpi
    have O2 := Lib.hid (O1.out.alloc (.cells #[.int .i64 0, .int .i64 0] 25 (0, 0)))
    have S2 := Lib.hid (S1.out.alloc (.cells #[.int .i64 0, .int .i64 0] 25 (0, 0)))
    have R2 := Lib.hid (R1.out.alloc (.cells #[.int .i64 0, .int .i64 0] 25 (0, 0)))
    have T2 := Lib.hid (T1.out.alloc (.cells #[.int .i64 0, .int .i64 0] 25 (0, 0)))
    have F2 := Lib.hid (F1.out.alloc (.cells #[.int .i64 0, .int .i64 0] 25 (0, 0)))
    have u2 := up_alloc u1 (.cells #[.int .i64 0, .int .i64 0] 25 (0, 0))
    have oc := O2.out.c
    clear O1 S1 R1 T1 F1
    go_wp2_with fail
    refine (undoingsOf_any p hs _ cap _ rfl (HP.out.mono u2) (bd_of VV.out.1)).mono ?_
    rintro e w3 ⟨v3, rfl, own3, hb3⟩
    obtain ⟨r, cr, rfl, hr, -, -, -⟩ := row_of_own own3
    have HR := Lib.hid hr
    have u3 := up_call u2 hb3
    have O3 := Lib.hid (O2.out.up hb3)
    have S3 := Lib.hid (S2.out.up hb3)
    have R3 := Lib.hid (R2.out.up hb3)
    have T3 := Lib.hid (T2.out.up hb3)
    have F3 := Lib.hid (F2.out.up hb3)
    clear own3 hr hb3 O2 S2 R2 T2 F2 oc
    have sc := S3.out.c
    go_wp2_with fail
    refine (touches_any q r ks (Tp.cg (Tp.iv 0 hs)) _ cap' _ cr _ rfl rfl (HQ.out.mono u3) (bd_of VV.out.2) HR.out (bc_iv (bd_of VV.out.1)).len).mono ?_
    rintro e w4 ⟨rfl, hb4⟩
    have u4 := up_call u3 hb4
    have HR4 := Lib.hid (HR.out.mono hb4)
    have O4 := Lib.hid (O3.out.up hb4)
    have S4 := Lib.hid (S3.out.up hb4)
    have R4 := Lib.hid (R3.out.up hb4)
    have T4 := Lib.hid (T3.out.up hb4)
    have F4 := Lib.hid (F3.out.up hb4)
    clear hb4 O3 S3 R3 T3 F3 HR sc
    cases ht : Tp.tch ks (Tp.cg (Tp.iv 0 hs))
    · have HT := Lib.hid ht
      clear ht
      have sc := S4.out.c
      go_wp2_with fail
      refine (behind_any q r ks (Tp.cg (Tp.iv 0 hs)) _ cap' _ cr _ rfl rfl (HQ.out.mono u4) (bd_of VV.out.2) (vp_small VV.out.2) HR4.out (bc_iv (bd_of VV.out.1))).mono ?_
      rintro e w5 ⟨pa, ca, rfl, hpa, hca, hla, hb5⟩
      have BF := Lib.hid (bd_xa VV.out.1 VV.out.2)
      obtain ⟨fa, hfa⟩ : ∃ f, f = Tp.bh ks (Tp.cg (Tp.iv 0 hs)) := ⟨_, rfl⟩
      rw [← hfa] at hpa hla BF ⊢
      have HFA := Lib.hid (show fa = Tp.xa hs ks from hfa)
      have u6 := Lib.hid (up_alloc (up_call u4 hb5) (.cells #[.slice pa fa.length ca] 41 (0, 0)))
      have O6 := Lib.hid ((O4.out.up hb5).alloc (.cells #[.slice pa fa.length ca] 41 (0, 0)))
      have R6 := Lib.hid ((R4.out.up hb5).alloc (.cells #[.slice pa fa.length ca] 41 (0, 0)))
      have T6 := Lib.hid ((T4.out.up hb5).alloc (.cells #[.slice pa fa.length ca] 41 (0, 0)))
      have F6 := Lib.hid ((F4.out.up hb5).alloc (.cells #[.slice pa fa.length ca] 41 (0, 0)))
      have A6 := Lib.hid (One.new w5 (.slice pa fa.length ca) 41 w5.heap.size rfl)
      have PA6 := Lib.hid ((hpa.le (show w.heap.size + 1 + 1 + 1 + 1 + 1 ≤ w4.heap.size by have := F4.out.lt; omega)).up (up_alloc (Below.refl _ _) (.cells #[.slice pa fa.length ca] 41 (0, 0))))
      have HCA := Lib.hid (And.intro hca hla)
      have hgA : w.heap.size + 1 + 1 + 1 + 1 < w5.heap.size := (F4.out.up hb5).lt
      clear hpa hca hla hb5 O4 S4 R4 T4 F4 HR4 hfa sc u4 hf1
      go_wp2_with fail
      obtain ⟨X, hX⟩ : ∃ X, X = w5.alloc (.cells #[.slice pa fa.length ca] 41 (0, 0)) := ⟨_, rfl⟩
      rw [← hX] at u6 O6 R6 T6 F6 A6 PA6 ⊢
      clear hX
      obtain ⟨gA, hgA'⟩ : ∃ g, g = w5.heap.size := ⟨_, rfl⟩
      rw [← hgA'] at A6 hgA ⊢
      clear hgA'
      have x1 := O6.out.c
      have x2 := A6.out.c
      have x3 := cell_block_lt x1
      have x4 := cell_block_lt x2
      have hgX : gA < X.heap.size := x4
      have y1 := World.new_ne X ⟨w.heap.size, 0, none⟩ x1
      have y2 := World.new_ne X ⟨gA, 0, none⟩ x2
      have K1 := fun (Y : World) (hY : Ptc Y pa fa) => changesOf_any pa fa fa.length ca Y rfl hY BF.out
      have K2 := fun (Y : World) (rr : Option Addr) (crr : Nat) (hY : Ptc Y p hs) (hR : Row chE Y rr (Tp.cg fa)) => behind_any p rr hs (Tp.cg fa) hs.length cap (Tp.cg fa).length crr Y rfl rfl hY (bd_of VV.out.1) (vp_small VV.out.1) hR (bc_cg BF.out)
      have HZ := Lib.hid ((One.new X (.slice none 0 0) 41 X.heap.size rfl).drewN 1)
      go_region_held3 (fun w' => w'.cell? ⟨w.heap.size, 0, none⟩ = some (.slice p hs.length cap) ∧ w'.cell? ⟨gA, 0, none⟩ = some (.slice pa fa.length ca)) (go_keep)
        (first
          | (go_at_call 62
             refine (K1 _ (by first | exact (PA6.out.up (Below.refl _ _).drew).self | exact (PA6.out.up ((Below.refl _ _).alloc (Nat.le_refl _) _).drew).self)).mono ?_
             rintro e wA ⟨vA, rfl, ownA, hbA⟩
             obtain ⟨rA', crA, rfl, hrA, -, -, -⟩ := row_of_own ownA
             have RA := Lib.hid hrA
             have BA : Hid (Below X.heap.size X wA) := Lib.hid (by first | exact (Below.refl _ _).drew.trans (hbA.mono (by simp)) | exact (((Below.refl _ _).alloc (Nat.le_refl _) _).drew).trans (hbA.mono (by simp)))
             have zA := BA.out.size
             have c1A := (BA.out.cell (p := ⟨w.heap.size, 0, none⟩) x3).trans x1
             have c2A := (BA.out.cell (p := ⟨gA, 0, none⟩) x4).trans x2
             have t1A := cell_block_lt c1A
             have t2A := cell_block_lt c2A
             have y1A := World.new_ne wA ⟨w.heap.size, 0, none⟩ c1A
             have y2A := World.new_ne wA ⟨gA, 0, none⟩ c2A
             first | (have HZA := Lib.hid (HZ.out.up hbA)) | (have HZA := Lib.hid (One.new wA (.slice none 0 0) 41 wA.heap.size rfl))
             clear ownA hbA hrA)
          | (go_at_call 64
             refine (K2 _ rA' crA (by first | exact HP.out.mono (u6.out.trans (BA.out.mono (by have := u6.out.size; omega))) | exact HP.out.mono ((u6.out.trans (BA.out.mono (by have := u6.out.size; omega))).alloc (by have := u6.out.size; omega) _)) (by first | exact RA.out | exact RA.out.mono ((Below.refl _ _).alloc (Nat.le_refl _) _))).mono ?_
             rintro e wB ⟨pb, cb, rfl, hpb, hcb, hlb, hbB⟩
             have PB := Lib.hid (And.intro hpb (And.intro hcb hlb))
             have BB : Hid (Below wA.heap.size wA wB) := Lib.hid (by first | exact hbB | exact ((Below.refl _ _).alloc (Nat.le_refl _) _).trans (hbB.mono (by simp)))
             have zB := BB.out.size
             have c1B := (BB.out.cell (p := ⟨w.heap.size, 0, none⟩) t1A).trans c1A
             have c2B := (BB.out.cell (p := ⟨gA, 0, none⟩) t2A).trans c2A
             have y1B := World.new_ne wB ⟨w.heap.size, 0, none⟩ c1B
             have y2B := World.new_ne wB ⟨gA, 0, none⟩ c2B
             first | (have HZB := Lib.hid (HZA.out.up hbB); obtain ⟨v0, v1⟩ := HZB.out) | skip
             clear hpb hcb hlb hbB))
      all_goals first
        | (with_reducible show Exit.then _ _ Exit.normal _ (wB.alloc (.cells #[.slice pb (Tp.bh hs (Tp.cg fa)).length cb] 41 (0, 0)))
           have BX : Hid (Below X.heap.size X (wB.alloc (.cells #[.slice pb (Tp.bh hs (Tp.cg fa)).length cb] 41 (0, 0)))) := Lib.hid ((BA.out.trans (BB.out.mono zA)).alloc (by omega) _)
           have PX : Hid (PtAt X.heap.size (wB.alloc (.cells #[.slice pb (Tp.bh hs (Tp.cg fa)).length cb] 41 (0, 0))) pb (Tp.bh hs (Tp.cg fa))) := Lib.hid ((PB.out.1.le (by first | exact zA | (simp; omega))).up (up_alloc (Below.refl _ _) _))
           have CX := Lib.hid (One.new wB (.slice pb (Tp.bh hs (Tp.cg fa)).length cb) 41 wB.heap.size rfl)
           have hXg : X.heap.size ≤ wB.heap.size := by omega
           generalize wB.alloc (.cells #[.slice pb (Tp.bh hs (Tp.cg fa)).length cb] 41 (0, 0)) = Z at BX PX CX ⊢
           generalize wB.heap.size = gB at CX hXg ⊢)
        | (with_reducible show Exit.then _ _ Exit.normal _ (wB.setCell ⟨wA.heap.size, 0, none⟩ (.slice pb (Tp.bh hs (Tp.cg fa)).length cb))
           have BX : Hid (Below X.heap.size X (wB.setCell ⟨wA.heap.size, 0, none⟩ (.slice pb (Tp.bh hs (Tp.cg fa)).length cb))) := Lib.hid ((BA.out.trans (BB.out.mono zA)).setCell (by dsimp only; omega) _)
           have PX : Hid (PtAt X.heap.size (wB.setCell ⟨wA.heap.size, 0, none⟩ (.slice pb (Tp.bh hs (Tp.cg fa)).length cb)) pb (Tp.bh hs (Tp.cg fa))) := Lib.hid ((PB.out.1.set (by simp) _).le (by simp; omega))
           have CX : Hid (One (wB.setCell ⟨wA.heap.size, 0, none⟩ (.slice pb (Tp.bh hs (Tp.cg fa)).length cb)) wA.heap.size (.slice pb (Tp.bh hs (Tp.cg fa)).length cb)) := Lib.hid ⟨World.cell?_setCell_same _ _ _ HZB.out.c, by rw [World.frozen?_setCell]; exact HZB.out.f⟩
           have hXg : X.heap.size ≤ wA.heap.size := zA
           generalize wB.setCell ⟨wA.heap.size, 0, none⟩ (.slice pb (Tp.bh hs (Tp.cg fa)).length cb) = Z at BX PX CX ⊢
           generalize wA.heap.size = gB at CX hXg ⊢)
        | (with_reducible show Exit.then _ _ Exit.normal _ (wB.setCell ⟨X.heap.size, 0, none⟩ (.slice pb (Tp.bh hs (Tp.cg fa)).length cb))
           have BX : Hid (Below X.heap.size X (wB.setCell ⟨X.heap.size, 0, none⟩ (.slice pb (Tp.bh hs (Tp.cg fa)).length cb))) := Lib.hid ((BA.out.trans (BB.out.mono zA)).setCell (by dsimp only; omega) _)
           have PX : Hid (PtAt X.heap.size (wB.setCell ⟨X.heap.size, 0, none⟩ (.slice pb (Tp.bh hs (Tp.cg fa)).length cb)) pb (Tp.bh hs (Tp.cg fa))) := Lib.hid ((PB.out.1.set (by have := HZA.out.lt; omega) _).le (by omega))
           have CX : Hid (One (wB.setCell ⟨X.heap.size, 0, none⟩ (.slice pb (Tp.bh hs (Tp.cg fa)).length cb)) X.heap.size (.slice pb (Tp.bh hs (Tp.cg fa)).length cb)) := Lib.hid ⟨World.cell?_setCell_same _ _ _ HZB.out.c, by rw [World.frozen?_setCell]; exact HZB.out.f⟩
           generalize wB.setCell ⟨X.heap.size, 0, none⟩ (.slice pb (Tp.bh hs (Tp.cg fa)).length cb) = Z at BX PX CX ⊢
           obtain ⟨gB, hgB⟩ : ∃ g, g = X.heap.size := ⟨_, rfl⟩
           rw [← hgB] at CX ⊢
           have hXg : X.heap.size ≤ gB := Nat.le_of_eq hgB.symm
           clear hgB)
      all_goals
        have uZ := Lib.hid (up_call u6.out BX.out)
        have RZ := Lib.hid (R6.out.up BX.out)
        have TZ := Lib.hid (T6.out.up BX.out)
        have FZ := Lib.hid (F6.out.up BX.out)
        have AZ := Lib.hid (A6.out.up BX.out)
        have PAZ := Lib.hid (PA6.out.up BX.out)
        have PBZ := Lib.hid (PX.out.le (show w.heap.size + 1 + 1 + 1 + 1 + 1 ≤ X.heap.size by omega))
        have HLA := Lib.hid (show fa.length ≤ 1000 from BF.out.len)
        have HLB : Hid ((Tp.bh hs (Tp.cg fa)).length ≤ 1000) := Lib.hid (by rw [bh_len]; have := VV.out.1.len; omega)
        have HB := Lib.hid (show Tp.bh hs (Tp.cg fa) = Tp.xb hs ks by rw [HFA.out]; rfl)
        have HCB := Lib.hid (PB.out.2)
        obtain ⟨fb, hfb⟩ : ∃ f, f = Tp.bh hs (Tp.cg fa) := ⟨_, rfl⟩
        rw [← hfb] at PBZ HLB HB HCB CX ⊢
        have ac := AZ.out.c
        clear K1 K2 HZ x1 x2 x3 x4 y1 y2 hfb PX PB c1A c2A t1A t2A y1A y2A c1B c2B y1B y2B
        go_wp2_with fail
        refine (valid_any pa fa _ ca _ rfl PAZ.out.self HLA.out).mono ?_
        rintro e w7 ⟨rfl, hb7⟩
        have u7 := Lib.hid (up_call uZ.out hb7)
        have R7 := Lib.hid (RZ.out.up hb7)
        have T7 := Lib.hid (TZ.out.up hb7)
        have F7 := Lib.hid (FZ.out.up hb7)
        have A7 := Lib.hid (AZ.out.up hb7)
        have C7 := Lib.hid (CX.out.up hb7)
        have PA7 := Lib.hid (PAZ.out.up hb7)
        have PB7 := Lib.hid (PBZ.out.up hb7)
        clear hb7 uZ RZ TZ FZ AZ CX PAZ PBZ ac BX
        by_cases hv : Tp.pC fa = 0
        · have gv : decide (Tp.pC fa = 0) = true := by simpa using hv
          have HV := Lib.hid hv
          clear hv
          rw [gv]
          have cc := C7.out.c
          go_wp2_with fail
          refine (valid_any pb fb _ cb _ rfl PB7.out.self HLB.out).mono ?_
          rintro e w8 ⟨rfl, hb8⟩
          have u8 := Lib.hid (up_call u7.out hb8)
          have R8 := Lib.hid (R7.out.up hb8)
          have T8 := Lib.hid (T7.out.up hb8)
          have F8 := Lib.hid (F7.out.up hb8)
          have A8 := Lib.hid (A7.out.up hb8)
          have C8 := Lib.hid (C7.out.up hb8)
          have PA8 := Lib.hid (PA7.out.up hb8)
          have PB8 := Lib.hid (PB7.out.up hb8)
          clear hb8 u7 R7 T7 F7 A7 C7 PA7 PB7 cc
          by_cases hw : Tp.pC fb = 0
          · have gw : decide (Tp.pC fb = 0) = true := by simpa using hw
            have E := Lib.hid (Tp.e_good HP0.out HT.out ⟨by rw [← HFA.out]; exact HV.out, by rw [← HB.out]; exact hw⟩)
            clear hw
            rw [gw]
            obtain ⟨d4, d5, d0, d1⟩ := put_three (v := .slice pa fa.length ca) (v' := .slice pb fb.length cb) F8.out R8.out T8.out (by omega) (by omega) (by omega) 0 0
            have rc := R8.out.c
            have rf := R8.out.f
            have tc := T8.out.c
            have tf := T8.out.f
            have ac := A8.out.c
            have cc := C8.out.c
            have hXs : w.heap.size + 1 + 1 + 1 + 1 < gB := by omega
            have e1 : gA ≠ w.heap.size + 1 + 1 := by omega
            have e2 : gB ≠ w.heap.size + 1 + 1 := by omega
            have e3 : gA ≠ w.heap.size + 1 + 1 + 1 := by omega
            have e4 : gB ≠ w.heap.size + 1 + 1 + 1 := by omega
            have e5 := e1.symm
            have e6 := e2.symm
            have e7 := e3.symm
            have e8 := e4.symm
            obtain ⟨a0, a1, a2, a3, a4⟩ := F8.out
            go_wp2_with fail
            go_region
            all_goals
              go_wp2_with fail
              refine bodyPost_ret (v := .tuple #[.agg #[.slice pa fa.length ca], .agg #[.slice pb fb.length cb], .bool true, .agg #[.int .i64 0, .int .i64 0]]) (by simp [results, Try.results37, go_sem, d4, d5, d0, d1]) rfl ⟨pa, ca, pb, cb, by rw [E.out.1, E.out.2.1, E.out.2.2.1, E.out.2.2.2.1, E.out.2.2.2.2, HFA.out, HB.out], ?_, HCA.out.1, by rw [E.out.2.2.2.1, ← HFA.out]; exact HCA.out.2, ?_, HCB.out.1, by rw [E.out.2.2.2.2, ← HB.out]; exact HCB.out.2, ?_⟩
              · rw [E.out.2.2.2.1, ← HFA.out]
                refine PtAt.le (base := w.heap.size + 1 + 1 + 1 + 1 + 1) ?_ (by omega)
                first | exact PtAt.drew (PtAt.set (PtAt.set (PtAt.set (PtAt.set PA8.out (by omega) _) (by omega) _) (by omega) _) (by omega) _) | exact PtAt.set (PtAt.set (PtAt.set (PtAt.set (PtAt.drew PA8.out) (by omega) _) (by omega) _) (by omega) _) (by omega) _
              · rw [E.out.2.2.2.2, ← HB.out]
                refine PtAt.le (base := w.heap.size + 1 + 1 + 1 + 1 + 1) ?_ (by omega)
                first | exact PtAt.drew (PtAt.set (PtAt.set (PtAt.set (PtAt.set PB8.out (by omega) _) (by omega) _) (by omega) _) (by omega) _) | exact PtAt.set (PtAt.set (PtAt.set (PtAt.set (PtAt.drew PB8.out) (by omega) _) (by omega) _) (by omega) _) (by omega) _
              · have := u8.out
                (repeat' (first | (with_reducible exact Below.refl _ _) | (with_reducible assumption) | (with_reducible refine below_drewN ?_ _) | (with_reducible refine Below.setCell ?_ ?_ _) | (with_reducible refine Below.alloc ?_ ?_ _) | (with_reducible refine Below.drew ?_) | go_size))
          · have gw : decide (Tp.pC fb = 0) = false := by simpa using hw
            have E := Lib.hid (Tp.e_large HP0.out HT.out (fun h => hw (by rw [HB.out]; exact h.2)))
            clear hw
            rw [gw]
            go_wp2_with fail
            refine (tooLarge_any _).mono ?_
            rintro e w9 ⟨rfl, hb9⟩
            have u9 := up_call u8.out hb9
            have R9 := R8.out.up hb9
            have T9 := T8.out.up hb9
            have F9 := F8.out.up hb9
            obtain ⟨d4, d5, d0, d1⟩ := put_three (v := .slice none 0 0) (v' := .slice none 0 0) F9 R9 T9 (by omega) (by omega) (by omega) 10 (-1)
            have rc := R9.c
            have rf := R9.f
            have tc := T9.c
            have tf := T9.f
            obtain ⟨a0, a1, a2, a3, a4⟩ := F9
            go_wp2_with fail
            refine bodyPost_ret (v := .tuple #[.agg #[.slice none 0 0], .agg #[.slice none 0 0], .bool false, .agg #[.int .i64 10, .int .i64 (-1)]]) (by simp [results, Try.results37, go_sem, d4, d5, d0, d1]) rfl ⟨none, 0, none, 0, by rw [E.out.1, E.out.2.1, E.out.2.2.1, E.out.2.2.2.1, E.out.2.2.2.2]; rfl, by rw [E.out.2.2.2.1]; exact PtAt.none _ _, fun _ => rfl, by rw [E.out.2.2.2.1]; exact Nat.le_refl _, by rw [E.out.2.2.2.2]; exact PtAt.none _ _, fun _ => rfl, by rw [E.out.2.2.2.2]; exact Nat.le_refl _, ?_⟩
            (repeat' (first | (with_reducible exact Below.refl _ _) | (with_reducible assumption) | (with_reducible refine below_drewN ?_ _) | (with_reducible refine Below.setCell ?_ ?_ _) | (with_reducible refine Below.alloc ?_ ?_ _) | (with_reducible refine Below.drew ?_) | go_size))
        · have gv : decide (Tp.pC fa = 0) = false := by simpa using hv
          have E := Lib.hid (Tp.e_large HP0.out HT.out (fun h => hv (by rw [HFA.out]; exact h.1)))
          clear hv
          rw [gv]
          go_wp2_with fail
          refine (tooLarge_any _).mono ?_
          rintro e w9 ⟨rfl, hb9⟩
          have u9 := up_call u7.out hb9
          have R9 := R7.out.up hb9
          have T9 := T7.out.up hb9
          have F9 := F7.out.up hb9
          obtain ⟨d4, d5, d0, d1⟩ := put_three (v := .slice none 0 0) (v' := .slice none 0 0) F9 R9 T9 (by omega) (by omega) (by omega) 10 (-1)
          have rc := R9.c
          have rf := R9.f
          have tc := T9.c
          have tf := T9.f
          obtain ⟨a0, a1, a2, a3, a4⟩ := F9
          go_wp2_with fail
          refine bodyPost_ret (v := .tuple #[.agg #[.slice none 0 0], .agg #[.slice none 0 0], .bool false, .agg #[.int .i64 10, .int .i64 (-1)]]) (by simp [results, Try.results37, go_sem, d4, d5, d0, d1]) rfl ⟨none, 0, none, 0, by rw [E.out.1, E.out.2.1, E.out.2.2.1, E.out.2.2.2.1, E.out.2.2.2.2]; rfl, by rw [E.out.2.2.2.1]; exact PtAt.none _ _, fun _ => rfl, by rw [E.out.2.2.2.1]; exact Nat.le_refl _, by rw [E.out.2.2.2.2]; exact PtAt.none _ _, fun _ => rfl, by rw [E.out.2.2.2.2]; exact Nat.le_refl _, ?_⟩
          (repeat' (first | (with_reducible exact Below.refl _ _) | (with_reducible assumption) | (with_reducible refine below_drewN ?_ _) | (with_reducible refine Below.setCell ?_ ?_ _) | (with_reducible refine Below.alloc ?_ ?_ _) | (with_reducible refine Below.drew ?_) | go_size))
    · have E := Lib.hid (Tp.e_touch HP0.out ht)
      clear ht
      obtain ⟨d4, d5, d0, d1⟩ := put_three (v := .slice none 0 0) (v' := .slice none 0 0) F4.out R4.out T4.out (by omega) (by omega) (by omega) 0 0
      have rc := R4.out.c
      have rf := R4.out.f
      have tc := T4.out.c
      have tf := T4.out.f
      obtain ⟨a0, a1, a2, a3, a4⟩ := F4.out
      go_wp2_with fail
      refine bodyPost_ret (v := .tuple #[.agg #[.slice none 0 0], .agg #[.slice none 0 0], .bool false, .agg #[.int .i64 0, .int .i64 0]]) (by simp [results, Try.results37, go_sem, d4, d5, d0, d1]) rfl ⟨none, 0, none, 0, by rw [E.out.1, E.out.2.1, E.out.2.2.1, E.out.2.2.2.1, E.out.2.2.2.2]; rfl, by rw [E.out.2.2.2.1]; exact PtAt.none _ _, fun _ => rfl, by rw [E.out.2.2.2.1]; exact Nat.le_refl _, by rw [E.out.2.2.2.2]; exact PtAt.none _ _, fun _ => rfl, by rw [E.out.2.2.2.2]; exact Nat.le_refl _, ?_⟩
      (repeat' (first | (with_reducible exact Below.refl _ _) | (with_reducible assumption) | (with_reducible refine below_drewN ?_ _) | (with_reducible refine Below.setCell ?_ ?_ _) | (with_reducible refine Below.alloc ?_ ?_ _) | (with_reducible refine Below.drew ?_) | go_size))
  · have E := Lib.hid (Tp.e_fault hp0)
    have hne := hp0
    obtain ⟨d4, d5, d0, d1⟩ := put_three (v := .slice none 0 0) (v' := .slice none 0 0) (F1.out.alloc (.cells #[.int .i64 (Tp.prC hs ks), .int .i64 (Tp.prI hs ks)] 25 (0, 0))) (R1.out.alloc (.cells #[.int .i64 (Tp.prC hs ks), .int .i64 (Tp.prI hs ks)] 25 (0, 0))) (T1.out.alloc (.cells #[.int .i64 (Tp.prC hs ks), .int .i64 (Tp.prI hs ks)] 25 (0, 0))) (by omega) (by omega) (by omega) (Tp.prC hs ks) (Tp.prI hs ks)
    have rc := cell_up R1.out.c (.cells #[.int .i64 (Tp.prC hs ks), .int .i64 (Tp.prI hs ks)] 25 (0, 0))
    have rf := frozen_up R1.out.c R1.out.f (.cells #[.int .i64 (Tp.prC hs ks), .int .i64 (Tp.prI hs ks)] 25 (0, 0))
    have tc := cell_up T1.out.c (.cells #[.int .i64 (Tp.prC hs ks), .int .i64 (Tp.prI hs ks)] 25 (0, 0))
    have tf := frozen_up T1.out.c T1.out.f (.cells #[.int .i64 (Tp.prC hs ks), .int .i64 (Tp.prI hs ks)] 25 (0, 0))
    obtain ⟨a0, a1, a2, a3, a4⟩ := F1.out
    go_wp2_with fail
    go_region
    all_goals
      go_wp2_with fail
      refine bodyPost_ret (v := .tuple #[.agg #[.slice none 0 0], .agg #[.slice none 0 0], .bool false, .agg #[.int .i64 (Tp.prC hs ks), .int .i64 (Tp.prI hs ks)]]) (by simp [results, Try.results37, go_sem, d4, d5, d0, d1]) rfl ⟨none, 0, none, 0, by rw [E.out.1, E.out.2.1, E.out.2.2.1, E.out.2.2.2.1, E.out.2.2.2.2]; rfl, by rw [E.out.2.2.2.1]; exact PtAt.none _ _, fun _ => rfl, by rw [E.out.2.2.2.1]; exact Nat.le_refl _, by rw [E.out.2.2.2.2]; exact PtAt.none _ _, fun _ => rfl, by rw [E.out.2.2.2.2]; exact Nat.le_refl _, ?_⟩
      (repeat' (first | (with_reducible exact Below.refl _ _) | (with_reducible assumption) | (with_reducible refine below_drewN ?_ _) | (with_reducible refine Below.setCell ?_ ?_ _) | (with_reducible refine Below.alloc ?_ ?_ _) | (with_reducible refine Below.drew ?_) | go_size))
end Go.Proofs.Ytbgnckbgpiajjaa
