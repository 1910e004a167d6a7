/-
  textpatch.Compose, walked.
-/
import Derived.Test.YtbgnckbgpiajjaaCpL
import Derived.Test.YtbgnckbgpiajjaaTpG
namespace Go.Proofs.Ytbgnckbgpiajjaa
open Go.RowKit
set_option maxRecDepth 4000

/-- what Compose returns -/
noncomputable def coC (hs ks : List Tp.H) : Int := if Tp.prC hs ks ≠ 0 then Tp.prC hs ks else if kfC hs ks ≠ 0 then kfC hs ks else fitC (Tp.cm hs ks)
noncomputable def coI (hs ks : List Tp.H) : Int := if Tp.prC hs ks ≠ 0 then Tp.prI hs ks else if kfC hs ks ≠ 0 then kfI hs ks else fitI (Tp.cm hs ks)
noncomputable def coT (hs ks : List Tp.H) : List Tp.H := if coC hs ks = 0 then Tp.cm hs ks else []
theorem co_fault {hs ks : List Tp.H} (h : Tp.prC hs ks ≠ 0) : coC hs ks = Tp.prC hs ks ∧ coI hs ks = Tp.prI hs ks ∧ coT hs ks = [] := by
  have e : coC hs ks = Tp.prC hs ks := if_pos h
  exact ⟨e, if_pos h, if_neg (by rw [e]; exact h)⟩
theorem co_conf {hs ks : List Tp.H} (h : Tp.prC hs ks = 0) (k : kfC hs ks ≠ 0) : coC hs ks = kfC hs ks ∧ coI hs ks = kfI hs ks ∧ coT hs ks = [] := by
  have e : coC hs ks = kfC hs ks := (if_neg (by simp [h])).trans (if_pos k)
  exact ⟨e, (if_neg (by simp [h])).trans (if_pos k), if_neg (by rw [e]; exact k)⟩
theorem co_fit {hs ks : List Tp.H} (h : Tp.prC hs ks = 0) (k : kfC hs ks = 0) : coC hs ks = fitC (Tp.cm hs ks) ∧ coI hs ks = fitI (Tp.cm hs ks) ∧ (Tp.pC (Tp.cm hs ks) = 0 → coT hs ks = Tp.cm hs ks) ∧ (Tp.pC (Tp.cm hs ks) ≠ 0 → coT hs ks = []) := by
  have e : coC hs ks = fitC (Tp.cm hs ks) := (if_neg (by simp [h])).trans (if_neg (by simp [k]))
  refine ⟨e, (if_neg (by simp [h])).trans (if_neg (by simp [k])), fun l => if_pos (by rw [e]; exact if_pos l), fun l => if_neg (by rw [e]; unfold fitC; rw [if_neg l]; decide)⟩
theorem coC_zero {hs ks : List Tp.H} : coC hs ks = 0 ↔ Tp.Vp hs ∧ Tp.Vp ks ∧ kfC hs ks = 0 ∧ Tp.Vp (Tp.cm hs ks) := by
  by_cases h : Tp.prC hs ks = 0
  · obtain ⟨h1, h2⟩ := Tp.prC_zero.1 h
    by_cases k : kfC hs ks = 0
    · rw [(co_fit h k).1]
      unfold fitC
      by_cases l : Tp.pC (Tp.cm hs ks) = 0
      · rw [if_pos l]; exact ⟨fun _ => ⟨h1, h2, k, Tp.pC_zero.1 l⟩, fun _ => rfl⟩
      · rw [if_neg l]; exact ⟨fun e => absurd e (by decide), fun e => (l (Tp.pC_zero.2 e.2.2.2)).elim⟩
    · rw [(co_conf h k).1]; exact ⟨fun e => (k e).elim, fun e => (k e.2.2.1).elim⟩
  · rw [(co_fault h).1]; exact ⟨fun e => (h e).elim, fun e => (h (Tp.prC_zero.2 ⟨e.1, e.2.1⟩)).elim⟩
def CoPost (hs ks : List Tp.H) (w : World) (e : Ending) (w' : World) : Prop :=
  ∃ p cap, e = .returned (.tuple #[.agg #[.slice p (coT hs ks).length cap], .agg #[.int .i64 (coC hs ks), .int .i64 (coI hs ks)]]) ∧ PtB w.heap.size w' p (coT hs ks) ∧ (p = none → cap = 0) ∧ (coT hs ks).length ≤ cap ∧ Below w.heap.size w w'
theorem onLast_len (f : Tp.H → Tp.H) : ∀ l : List Tp.H, (Dif.onLast f l).length = l.length
  | [] => rfl
  | [_] => rfl
  | _ :: k :: r => by rw [Dif.onLast, List.length_cons, onLast_len f (k :: r)]; rfl
theorem pst_len (z : Dif.St ByteArray) (x : Nat × ByteArray) : (Dif.pst z x).hs.length ≤ z.hs.length + 1 := by
  unfold Dif.pst
  split
  · exact Nat.le_succ _
  · split <;> (dsimp only; rw [onLast_len]; split <;> simp)
theorem fold_len (s : List (Nat × ByteArray)) : ∀ z : Dif.St ByteArray, (s.foldl Dif.pst z).hs.length ≤ z.hs.length + s.length := by
  induction s with
  | nil => intro z; exact Nat.le_refl _
  | cons x s ih => intro z; have h1 := ih (Dif.pst z x); have h2 := pst_len z x; rw [List.foldl_cons, List.length_cons]; omega
/-- the hunks of a composition are few -/
theorem stps_len (xs : List Plc) (h : ∀ x ∈ xs, x.del.length ≤ 120 ∧ x.ins.length ≤ 120) : (stps xs).length ≤ 241 * xs.length := by
  induction xs with
  | nil => exact Nat.zero_le _
  | cons x xs ih =>
    have h1 := ih (fun y hy => h y (List.mem_cons_of_mem _ hy))
    have h2 := h x (List.mem_cons_self ..)
    have h3 : x.tl.length ≤ 1 := by unfold Plc.tl; split <;> simp [Tp.is, Tp.ds]
    unfold stps at h1 ⊢
    rw [List.flatMap_cons, List.length_append, List.length_cons]
    have h4 : x.st.length = x.del.length + (x.ins.length + x.tl.length) := by unfold Plc.st Tp.ds Tp.is; simp
    omega
theorem pof_len (xs : List Plc) (h : ∀ x ∈ xs, x.del.length ≤ 120 ∧ x.ins.length ≤ 120) : (Dif.pof (stps xs)).length ≤ 241 * xs.length := by
  have := fold_len (stps xs) ⟨[], 0, false⟩
  have h2 := stps_len xs h
  unfold Dif.pof
  simp only [List.length_nil] at this
  omega
theorem Pls.mono {w w' : World} {p : Option Addr} {xs : List Plc} (h : Pls w p xs) (hb : Below w.heap.size w w') : Pls w' p xs := by
  refine ⟨h.nil', fun hn => ?_⟩
  obtain ⟨b, off, rfl, hlt, hc⟩ := h.at' hn
  refine ⟨b, off, rfl, Nat.lt_of_lt_of_le hlt hb.size, fun i hi => ?_⟩
  obtain ⟨d, n, h0, h1, h2, h3, h4, h5, h6⟩ := hc i hi
  exact ⟨d, n, by rw [hb.cell (p := ⟨b, _, none⟩) hlt, h0], by rw [hb.cell (p := ⟨b, _, none⟩) hlt, h1], by rw [hb.cell (p := ⟨b, _, none⟩) hlt, h2], by rw [hb.cell (p := ⟨b, _, none⟩) hlt, h3], by rw [hb.cell (p := ⟨b, _, none⟩) hlt, h4], h5.mono hb, h6.mono hb⟩
theorem kf_zero {hs ks : List Tp.H} (h : kfC hs ks = 0) : kfI hs ks = 0 := by
  cases e : Tp.cfi (Tp.iv 0 hs) ks 0 with
  | none => exact (kf_none e).2
  | some i => rw [(kf_some e).1] at h; cases h

set_option maxRecDepth 100000 in
set_option maxHeartbeats 8000000 in
theorem tpCompose_any (p q : Option Addr) (hs ks : List Tp.H) (n cap m cap' : Nat) (w : World) (hn : n = hs.length) (hm : m = ks.length) (hp : Ptc w p hs) (hq : Ptc w q ks) (hl : hs.length ≤ 2513169434845) (hl' : ks.length ≤ 2513169434845) :
    Calls Try.prog 28 #[.agg #[.slice p n cap], .agg #[.slice q m cap']] w (CoPost hs ks w) := by
  subst hn hm
  have HP := Lib.hid hp
  have HQ := Lib.hid hq
  clear hp hq
  have up0 := up_alloc (up_alloc (up_alloc (up_alloc (Below.refl w.heap.size w) (.cells #[.slice p hs.length cap] 41 (0, 0))) (.cells #[.slice q ks.length cap'] 41 (0, 0))) (.cells #[.slice none 0 0] 41 (0, 0))) (.cells #[.int .i64 0, .int .i64 0] 25 (0, 0))
  have O0 := (((One.new w (.slice p hs.length cap) 41 w.heap.size rfl).alloc (.cells #[.slice q ks.length cap'] 41 (0, 0))).alloc (.cells #[.slice none 0 0] 41 (0, 0))).alloc (.cells #[.int .i64 0, .int .i64 0] 25 (0, 0))
  have Q0 := ((One.new (w.alloc (.cells #[.slice p hs.length cap] 41 (0, 0))) (.slice q ks.length cap') 41 (w.heap.size + 1) (by simp)).alloc (.cells #[.slice none 0 0] 41 (0, 0))).alloc (.cells #[.int .i64 0, .int .i64 0] 25 (0, 0))
  have R0 := (One.new ((w.alloc (.cells #[.slice p hs.length cap] 41 (0, 0))).alloc (.cells #[.slice q ks.length cap'] 41 (0, 0))) (.slice none 0 0) 41 (w.heap.size + 1 + 1) (by simp)).alloc (.cells #[.int .i64 0, .int .i64 0] 25 (0, 0))
  have F0 : Flt ((((w.alloc (.cells #[.slice p hs.length cap] 41 (0, 0))).alloc (.cells #[.slice q ks.length cap'] 41 (0, 0))).alloc (.cells #[.slice none 0 0] 41 (0, 0))).alloc (.cells #[.int .i64 0, .int .i64 0] 25 (0, 0))) (w.heap.size + 1 + 1 + 1) 0 0 := by
    have := Flt.new (((w.alloc (.cells #[.slice p hs.length cap] 41 (0, 0))).alloc (.cells #[.slice q ks.length cap'] 41 (0, 0))).alloc (.cells #[.slice none 0 0] 41 (0, 0))) 0 0 25
    rw [World.size_alloc, World.size_alloc, World.size_alloc] at this
    exact this
  have hz0 : ((((w.alloc (.cells #[.slice p hs.length cap] 41 (0, 0))).alloc (.cells #[.slice q ks.length cap'] 41 (0, 0))).alloc (.cells #[.slice none 0 0] 41 (0, 0))).alloc (.cells #[.int .i64 0, .int .i64 0] 25 (0, 0))).heap.size = w.heap.size + 4 := by simp
  have oc := O0.c
  have AL := Lib.hid (And.intro O0 (And.intro Q0 (And.intro R0 F0)))
  have HZ0 := Lib.hid hz0
  clear O0 Q0 R0 F0 hz0
  go_enter Try.func28, Try.ntmps28
  go_wp2_with fail
  refine (tpValidate_any p hs _ cap _ rfl (HP.out.mono up0) hl).mono ?_
  rintro e w1 ⟨rfl, hb1⟩
  have u1 := up_call up0 hb1
  have O1 := AL.out.1.up hb1
  have Q1 := AL.out.2.1.up hb1
  have R1 := AL.out.2.2.1.up hb1
  have F1 := AL.out.2.2.2.up hb1
  have hzw := u1.size
  have hf1 := F1.lt
  have hz1 : w.heap.size + 4 ≤ w1.heap.size := by have := hb1.size; have := HZ0.out; omega
  clear up0 hb1 oc AL
  by_cases h : Tp.pC hs = 0
  · have E1 : Hid (Tp.pC ks = 0 → Tp.prC hs ks = 0) := Lib.hid fun h' => (if_pos h).trans h'
    have E2 : Hid (Tp.pC ks ≠ 0 → Tp.prC hs ks = Tp.pC ks ∧ Tp.prI hs ks = -2) := Lib.hid fun h' => ⟨if_pos h, (if_pos h).trans (if_neg h')⟩
    have VP := Lib.hid (Tp.pC_zero.1 h)
    rw [h, Tp.pI_zero h]
    clear h
    have a2 := up_alloc (Below.refl w1.heap.size w1) (.cells #[.int .i64 0, .int .i64 0] 25 (0, 0))
    have O2 := Lib.hid (O1.up a2)
    have Q2 := Lib.hid (Q1.up a2)
    have R2 := Lib.hid (R1.up a2)
    have F2 := Lib.hid (F1.up a2)
    have u2 := up_call u1 a2
    have hz2 := a2.size
    have qc := Q2.out.c
    clear O1 Q1 R1 F1 a2
    go_wp2_with fail
    refine (tpValidate_any q ks _ cap' _ rfl (HQ.out.mono u2) hl').mono ?_
    rintro e w3 ⟨rfl, hb3⟩
    have u3 := up_call u2 hb3
    have O3 := O2.out.up hb3
    have Q3 := Q2.out.up hb3
    have R3 := R2.out.up hb3
    have F3 := F2.out.up hb3
    have hz3 := hb3.size
    have hf3 := F3.lt
    clear hb3 qc O2 Q2 R2 F2
    by_cases h' : Tp.pC ks = 0
    · have E := Lib.hid (E1.out h')
      have VQ := Lib.hid (Tp.pC_zero.1 h')
      rw [h', Tp.pI_zero h']
      clear h' E1 E2
      have a4 := up_alloc (Below.refl w3.heap.size w3) (.cells #[.int .i64 0, .int .i64 0] 25 (0, 0))
      have R4 := Lib.hid (R3.up a4)
      have F4 := Lib.hid (F3.up a4)
      have u4 := up_call u3 a4
      have hz4 := a4.size
      have oc := (O3.up a4).c
      have qc := (Q3.up a4).c
      clear O3 Q3 R3 F3 a4
      go_wp2_with fail
      refine (middle_any p q hs ks _ cap _ cap' _ rfl rfl (HP.out.mono u4) (HQ.out.mono u4) VP.out VQ.out).mono ?_
      rintro e w5 ⟨pm, nm, cm', rfl, hb5, hpl⟩
      have R5 := R4.out.up hb5
      have F5 := F4.out.up hb5
      have u5 := up_call u4 hb5
      have hz5 := hb5.size
      have hf5 := F5.lt
      clear hb5 R4 F4 oc qc
      by_cases hk : kfC hs ks = 0
      · obtain ⟨xs, rfl, PL, hxl, hxb, hxm⟩ := hpl hk
        have EK := Lib.hid hk
        have HXM := Lib.hid hxm
        have hki := kf_zero hk
        have CF := Lib.hid (co_fit E.out hk)
        rw [hk, hki]
        have a6 := up_alloc (Below.refl w5.heap.size w5) (.cells #[.int .i64 0, .int .i64 0] 25 (0, 0))
        have R6 := R5.up a6
        have F6 := F5.up a6
        have u6 := up_call u5 a6
        have hz6 := a6.size
        have PL6 := Lib.hid (PL.mono a6)
        clear hk hki hpl a6 R5 F5 PL
        go_wp2_with fail
        refine (tpChanges_any pm xs _ cm' _ rfl PL6.out (by omega) hxb).mono ?_
        rintro e w7 ⟨pv, cv, rfl, hpt, hcv, hlv, hb7⟩
        have hln := pof_len xs (fun x hx => ⟨(hxb x hx).1, (hxb x hx).2.1⟩)
        rw [hxm] at hpt hlv hln ⊢
        have R7 := Lib.hid (R6.up hb7)
        have F7 := Lib.hid (F6.up hb7)
        have u7 := up_call u6 hb7
        have hz7 := hb7.size
        have PT := Lib.hid hpt
        clear R6 F6 hb7 hpt PL6
        go_wp2_with fail
        refine (validResult_any pv (Tp.cm hs ks) _ cv _ rfl PT.out.self (by omega)).mono ?_
        rintro e w8 ⟨rfl, hb8⟩
        have R8 := R7.out.up hb8
        have F8 := F7.out.up hb8
        have u8 := Lib.hid (up_call u7 hb8)
        have PT8 := Lib.hid (PT.out.up hb8)
        have rc := R8.c
        have rf := R8.f
        have hzf : w.heap.size + 4 ≤ (w5.alloc (.cells #[.int .i64 0, .int .i64 0] 25 (0, 0))).heap.size := by omega
        clear hb8 R7 F7 PT
        by_cases hf : Tp.pC (Tp.cm hs ks) = 0
        · have E1 : fitS (Tp.cm hs ks) pv (Tp.cm hs ks).length cv = .slice pv (Tp.cm hs ks).length cv := if_pos hf
          have E2 : fitC (Tp.cm hs ks) = 0 := if_pos hf
          have E3 : fitI (Tp.cm hs ks) = 0 := if_pos hf
          have EE : Hid (coC hs ks = 0 ∧ coI hs ks = 0 ∧ coT hs ks = Tp.cm hs ks) := Lib.hid ⟨by rw [CF.out.1, E2], by rw [CF.out.2.1, E3], CF.out.2.2.1 hf⟩
          rw [E1, E2, E3]
          clear E1 E2 E3 hf
          obtain ⟨dr, d0, d1⟩ := put_both (v := .slice pv (Tp.cm hs ks).length cv) F8 R8 (by omega) 0 0
          obtain ⟨a0, a1, a2, a3, a4⟩ := F8
          have UF : Hid (Below w.heap.size w (((w8.setCell ⟨w.heap.size + 1 + 1, 0, none⟩ (.slice pv (Tp.cm hs ks).length cv)).setCell ⟨w.heap.size + 1 + 1 + 1, 0, none⟩ (.int .i64 0)).setCell ⟨w.heap.size + 1 + 1 + 1, 1, none⟩ (.int .i64 0))) :=
            Lib.hid (((u8.out.setCell (by dsimp only; omega) _).setCell (by dsimp only; omega) _).setCell (by dsimp only; omega) _)
          have PF := Lib.hid ((((PT8.out.set (g := w.heap.size + 1 + 1) (k := 0) (by omega) (.slice pv (Tp.cm hs ks).length cv)).set (g := w.heap.size + 1 + 1 + 1) (k := 0) (by omega) (.int .i64 0)).set (g := w.heap.size + 1 + 1 + 1) (k := 1) (by omega) (.int .i64 0)).le (show w.heap.size ≤ _ by omega))
          go_wp2_with fail
          refine bodyPost_ret (v := .tuple #[.agg #[.slice pv (Tp.cm hs ks).length cv], .agg #[.int .i64 0, .int .i64 0]]) (by simp [results, Try.results28, go_sem, d0, d1, dr]) rfl ⟨pv, cv, by rw [EE.out.1, EE.out.2.1, EE.out.2.2], by rw [EE.out.2.2]; exact PF.out, hcv, by rw [EE.out.2.2]; exact hlv, UF.out⟩
        · have E1 : fitS (Tp.cm hs ks) pv (Tp.cm hs ks).length cv = .slice none 0 0 := if_neg hf
          have E2 : fitC (Tp.cm hs ks) = 10 := if_neg hf
          have E3 : fitI (Tp.cm hs ks) = -1 := if_neg hf
          have EE : Hid (coC hs ks = 10 ∧ coI hs ks = -1 ∧ coT hs ks = []) := Lib.hid ⟨by rw [CF.out.1, E2], by rw [CF.out.2.1, E3], CF.out.2.2.2 hf⟩
          rw [E1, E2, E3]
          clear E1 E2 E3 hf
          obtain ⟨dr, d0, d1⟩ := put_both (v := .slice none 0 0) F8 R8 (by omega) 10 (-1)
          obtain ⟨a0, a1, a2, a3, a4⟩ := F8
          have UF : Hid (Below w.heap.size w (((w8.setCell ⟨w.heap.size + 1 + 1, 0, none⟩ (.slice none 0 0)).setCell ⟨w.heap.size + 1 + 1 + 1, 0, none⟩ (.int .i64 10)).setCell ⟨w.heap.size + 1 + 1 + 1, 1, none⟩ (.int .i64 (-1)))) :=
            Lib.hid (((u8.out.setCell (by dsimp only; omega) _).setCell (by dsimp only; omega) _).setCell (by dsimp only; omega) _)
          go_wp2_with fail
          refine bodyPost_ret (v := .tuple #[.agg #[.slice none 0 0], .agg #[.int .i64 10, .int .i64 (-1)]]) (by simp [results, Try.results28, go_sem, d0, d1, dr]) rfl ⟨none, 0, by rw [EE.out.1, EE.out.2.1, EE.out.2.2]; rfl, by rw [EE.out.2.2]; exact PtB.nil _ _, fun _ => rfl, by rw [EE.out.2.2]; exact Nat.zero_le _, UF.out⟩
      · have EE := Lib.hid (co_conf E.out hk)
        have hne := hk
        clear hpl
        obtain ⟨dr, d0, d1⟩ := put_both (v := .slice none 0 0) (F5.alloc (.cells #[.int .i64 (kfC hs ks), .int .i64 (kfI hs ks)] 25 (0, 0))) (R5.alloc (.cells #[.int .i64 (kfC hs ks), .int .i64 (kfI hs ks)] 25 (0, 0))) (by omega) (kfC hs ks) (kfI hs ks)
        have rc := cell_up R5.c (.cells #[.int .i64 (kfC hs ks), .int .i64 (kfI hs ks)] 25 (0, 0))
        have rf := frozen_up R5.c R5.f (.cells #[.int .i64 (kfC hs ks), .int .i64 (kfI hs ks)] 25 (0, 0))
        obtain ⟨a0, a1, a2, a3, a4⟩ := F5
        go_wp2_with fail
        go_region
        all_goals
          go_wp2_with fail
          refine bodyPost_ret (v := .tuple #[.agg #[.slice none 0 0], .agg #[.int .i64 (kfC hs ks), .int .i64 (kfI hs ks)]]) (by simp [results, Try.results28, go_sem, d0, d1, dr]) rfl ⟨none, 0, by rw [EE.out.1, EE.out.2.1, EE.out.2.2]; rfl, by rw [EE.out.2.2]; exact PtB.nil _ _, fun _ => rfl, by rw [EE.out.2.2]; exact Nat.zero_le _, ?_⟩
          (repeat' (first | (with_reducible exact Below.refl _ _) | (with_reducible assumption) | (with_reducible refine below_drewN ?_ _) | (with_reducible refine Below.setCell ?_ ?_ _) | (with_reducible refine Below.alloc ?_ ?_ _) | (with_reducible refine Below.drew ?_) | go_size))
    · have EP := E2.out h'
      have EE := Lib.hid (co_fault (hs := hs) (ks := ks) (by rw [EP.1]; exact h'))
      have EPH := Lib.hid EP
      have hne := h'
      clear E1 E2 EP
      obtain ⟨dr, d0, d1⟩ := put_both (v := .slice none 0 0) (F3.alloc (.cells #[.int .i64 (Tp.pC ks), .int .i64 (Tp.pI ks)] 25 (0, 0))) (R3.alloc (.cells #[.int .i64 (Tp.pC ks), .int .i64 (Tp.pI ks)] 25 (0, 0))) (by omega) (Tp.pC ks) (-2)
      have rc := cell_up R3.c (.cells #[.int .i64 (Tp.pC ks), .int .i64 (Tp.pI ks)] 25 (0, 0))
      have rf := frozen_up R3.c R3.f (.cells #[.int .i64 (Tp.pC ks), .int .i64 (Tp.pI ks)] 25 (0, 0))
      obtain ⟨a0, a1, a2, a3, a4⟩ := F3
      go_wp2_with fail
      go_region
      all_goals
        go_wp2_with fail
        refine bodyPost_ret (v := .tuple #[.agg #[.slice none 0 0], .agg #[.int .i64 (Tp.pC ks), .int .i64 (-2)]]) (by simp [results, Try.results28, go_sem, d0, d1, dr]) rfl ⟨none, 0, by rw [EE.out.1, EE.out.2.1, EE.out.2.2, EPH.out.1, EPH.out.2]; rfl, by rw [EE.out.2.2]; exact PtB.nil _ _, fun _ => rfl, by rw [EE.out.2.2]; exact Nat.zero_le _, ?_⟩
        (repeat' (first | (with_reducible exact Below.refl _ _) | (with_reducible assumption) | (with_reducible refine below_drewN ?_ _) | (with_reducible refine Below.setCell ?_ ?_ _) | (with_reducible refine Below.alloc ?_ ?_ _) | (with_reducible refine Below.drew ?_) | go_size))
  · have EP : Tp.prC hs ks = Tp.pC hs ∧ Tp.prI hs ks = Tp.pI hs := ⟨if_neg h, if_neg h⟩
    have EE := Lib.hid (co_fault (hs := hs) (ks := ks) (by rw [EP.1]; exact h))
    have EPH := Lib.hid EP
    have hne := h
    clear EP
    obtain ⟨dr, d0, d1⟩ := put_both (v := .slice none 0 0) (F1.alloc (.cells #[.int .i64 (Tp.pC hs), .int .i64 (Tp.pI hs)] 25 (0, 0))) (R1.alloc (.cells #[.int .i64 (Tp.pC hs), .int .i64 (Tp.pI hs)] 25 (0, 0))) (by omega) (Tp.pC hs) (Tp.pI hs)
    have rc := cell_up R1.c (.cells #[.int .i64 (Tp.pC hs), .int .i64 (Tp.pI hs)] 25 (0, 0))
    have rf := frozen_up R1.c R1.f (.cells #[.int .i64 (Tp.pC hs), .int .i64 (Tp.pI hs)] 25 (0, 0))
    obtain ⟨a0, a1, a2, a3, a4⟩ := F1
    go_wp2_with fail
    go_region
    all_goals
      go_wp2_with fail
      refine bodyPost_ret (v := .tuple #[.agg #[.slice none 0 0], .agg #[.int .i64 (Tp.pC hs), .int .i64 (Tp.pI hs)]]) (by simp [results, Try.results28, go_sem, d0, d1, dr]) rfl ⟨none, 0, by rw [EE.out.1, EE.out.2.1, EE.out.2.2, EPH.out.1, EPH.out.2]; rfl, by rw [EE.out.2.2]; exact PtB.nil _ _, fun _ => rfl, by rw [EE.out.2.2]; exact Nat.zero_le _, ?_⟩
      (repeat' (first | (with_reducible exact Below.refl _ _) | (with_reducible assumption) | (with_reducible refine below_drewN ?_ _) | (with_reducible refine Below.setCell ?_ ?_ _) | (with_reducible refine Below.alloc ?_ ?_ _) | (with_reducible refine Below.drew ?_) | go_size))
end Go.Proofs.Ytbgnckbgpiajjaa
