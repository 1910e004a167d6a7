/-
  The walk of DiffMatchesSpec.
-/
import Derived.Test.YtpipcgmfjkacgaaDfH
import Derived.Test.YtpipcgmfjkacgaaDfL
import Derived.Test.YtpipcgmfjkacgaaDifE
namespace Go.Proofs.Ytpipcgmfjkacgaa
open Go.RowKit

theorem pst_len (s : Dif.St ByteArray) (x : Nat × ByteArray) : (Dif.pst s x).hs.length ≤ s.hs.length + 1 := by
  have h : ∀ (f : Dif.Hk ByteArray → Dif.Hk ByteArray) (l : List (Dif.Hk ByteArray)), (Dif.onLast f l).length = l.length := by
    intro f l
    fun_induction Dif.onLast f l <;> simp_all
  unfold Dif.pst
  split
  · exact Nat.le_succ _
  · split <;> (simp only [h]; split <;> simp)
theorem fold_len (l : List (Nat × ByteArray)) : ∀ s : Dif.St ByteArray, (l.foldl Dif.pst s).hs.length ≤ s.hs.length + l.length := by
  induction l with
  | nil => intro s; simp
  | cons x l ih =>
    intro s
    have := ih (Dif.pst s x)
    have := pst_len s x
    simp only [List.foldl_cons, List.length_cons]; omega
theorem pof_len (a b : List ByteArray) : (Dif.pof (Dif.al a b)).length ≤ a.length + b.length := by
  have h := fold_len (Dif.al a b) ⟨[], 0, false⟩
  have := al_len a b
  simp only [List.length_nil] at h
  unfold Dif.pof; omega

set_option maxHeartbeats 4000000 in
theorem spec_walk (p : Option Addr) (a : List ByteArray) (cap : Nat) (q : Option Addr) (b : List ByteArray) (cap' : Nat) (w : World) (hp : Sts w p a) (hc : p = none → cap = 0) (_ : a.length ≤ 8796093021952) (hl : a.length ≤ cap)
    (hq : Sts w q b) (hc' : q = none → cap' = 0) (_ : b.length ≤ 8796093021952) (hl' : b.length ≤ cap') :
    Calls Try.prog 3 #[.slice p a.length cap, .slice q b.length cap'] w (TPost w) := by
  have HP := Lib.hid hp
  have HQ := Lib.hid hq
  have SC := Lib.hid (fun W (h1 : Sts W p a) (h2 : Sts W q b) => script_any p q a b _ _ cap cap' W rfl rfl h1 h2 hc hc' hl hl')
  clear hp hq hc hc' hl hl'
  go_enter Try.func3, Try.ntmps3
  go_wp2_with fail
  refine (distance_any _ _ a b _ _ _ _ _ rfl rfl HP.out HQ.out).mono ?_
  rintro e w1 ⟨rfl, u1⟩
  have F6 := Lib.hid (Flt.new w1 (tC a b) (tI a b) 24)
  have v1 := up_alloc u1 (.cells #[.int .i64 (tC a b), .int .i64 (tI a b)] 24 (0, 0))
  go_wp2_with fail
  refine (SC.out _ (HP.out.mono v1) (HQ.out.mono v1)).mono ?_
  rintro e w2 ⟨p2, cp2, rfl, hpt, -, -, hb2⟩
  have u2 := up_call v1 hb2
  have F6 := Lib.hid (((F6.out.up hb2).alloc (.cells #[.slice p2 (sD a b).length cp2] 29 (0, 0))).alloc (.cells #[.int .i64 (tC a b), .int .i64 (tI a b)] 24 (0, 0)))
  have F7 := Lib.hid ((One.new w2 (.slice p2 (sD a b).length cp2) 29 w2.heap.size rfl).alloc (.cells #[.int .i64 (tC a b), .int .i64 (tI a b)] 24 (0, 0)))
  have F8 : Hid (Flt ((w2.alloc (.cells #[.slice p2 (sD a b).length cp2] 29 (0, 0))).alloc (.cells #[.int .i64 (tC a b), .int .i64 (tI a b)] 24 (0, 0))) (w2.heap.size + 1) (tC a b) (tI a b)) := by
    have := Flt.new (w2.alloc (.cells #[.slice p2 (sD a b).length cp2] 29 (0, 0))) (tC a b) (tI a b) 24
    rwa [World.size_alloc] at this
  have PT := Lib.hid (hpt.mono (up_alloc (up_alloc (Below.refl _ _) (.cells #[.slice p2 (sD a b).length cp2] 29 (0, 0))) (.cells #[.int .i64 (tC a b), .int .i64 (tI a b)] 24 (0, 0))))
  have v2 := up_alloc (up_alloc u2 (.cells #[.slice p2 (sD a b).length cp2] 29 (0, 0))) (.cells #[.int .i64 (tC a b), .int .i64 (tI a b)] 24 (0, 0))
  clear u1 v1 hpt hb2 u2
  go_wp2_with fail
  refine (diffCommon_any _ _ a b _ _ _ _ _ rfl rfl (HP.out.mono v2) (HQ.out.mono v2)).mono ?_
  rintro e w3 ⟨vk, rfl, own, hb3⟩
  obtain ⟨s1, s2⟩ := kD_small b HP.out
  obtain ⟨p3, cp3, rfl, hs3⟩ := sts_ofE own s1 s2
  have u3 := up_call v2 hb3
  have F6 := Lib.hid ((F6.out.up hb3).alloc (.cells #[.int .i64 (tC a b), .int .i64 (tI a b)] 24 (0, 0)))
  have F7 := Lib.hid ((F7.out.up hb3).alloc (.cells #[.int .i64 (tC a b), .int .i64 (tI a b)] 24 (0, 0)))
  have F8 := Lib.hid ((F8.out.up hb3).alloc (.cells #[.int .i64 (tC a b), .int .i64 (tI a b)] 24 (0, 0)))
  have F10 := Lib.hid (Flt.new w3 (tC a b) (tI a b) 24)
  have PT := Lib.hid ((PT.out.mono hb3).mono (up_alloc (Below.refl _ _) (.cells #[.int .i64 (tC a b), .int .i64 (tI a b)] 24 (0, 0))))
  have KS := Lib.hid (hs3.mono (up_alloc (Below.refl _ _) (.cells #[.int .i64 (tC a b), .int .i64 (tI a b)] 24 (0, 0))))
  have v3 := up_alloc u3 (.cells #[.int .i64 (tC a b), .int .i64 (tI a b)] 24 (0, 0))
  clear v2 own hb3 hs3 u3
  go_wp2_with fail
  refine (twoFault_any _ _ a b _ _ _ _ _ rfl rfl (HP.out.mono v3) (HQ.out.mono v3)).mono ?_
  rintro e w4 ⟨rfl, hb4⟩
  have u4 := up_call v3 hb4
  obtain ⟨a0, a1, -, -, a4⟩ := F6.out.up hb4
  obtain ⟨b0, b1, -, -, b4⟩ := F8.out.up hb4
  obtain ⟨c0, c1, -, -, c4⟩ := F10.out.up hb4
  have O7 := Lib.hid (F7.out.up hb4)
  have o7 := O7.out.c
  have o7l := O7.out.lt
  have PT := Lib.hid ((PT.out.mono hb4).mono (up_alloc (Below.refl _ _) (.cells #[.int .i64 (tC a b), .int .i64 (tI a b)] 24 (0, 0))))
  have KS := Lib.hid ((KS.out.mono hb4).mono (up_alloc (Below.refl _ _) (.cells #[.int .i64 (tC a b), .int .i64 (tI a b)] 24 (0, 0))))
  have uX := up_alloc u4 (.cells #[.int .i64 (tC a b), .int .i64 (tI a b)] 24 (0, 0))
  clear v3 hb4 F6 F7 F8 F10 u4
  by_cases h : okD a b
  · have g1 := (tC_ok h).1
    have l1 := len_ok h.1
    have l2 := len_ok h.2
    have eS : sD a b = Dif.pof (Dif.al a b) := if_pos h
    have eK : kD a b = Dif.kp a b := if_pos h
    have eD : dD a b = dist a b := if_pos h
    have hpl := pof_len a b
    rw [← eS] at hpl
    have RD : Hid (∀ W, Sts W p a → Sts W q b → Calls Try.prog 12 #[.slice p a.length cap, .slice q b.length cap'] W (BPost (.int .i64 (dD a b)) W)) := Lib.hid (fun W h1 h2 => by rw [eD]; exact refDistance_any p q a b _ _ _ _ W rfl rfl h1 h2 (by omega) (by omega))
    have RS : Hid (∀ W, Sts W p a → Sts W q b → Calls Try.prog 14 #[.slice p a.length cap, .slice q b.length cap'] W (PtPost (sD a b) W)) := Lib.hid (fun W h1 h2 => by rw [eS]; exact refScript_any p q a b _ _ _ _ W rfl rfl h1 h2 (by omega) (by omega))
    have RK : Hid (∀ W, Sts W p a → Sts W q b → Calls Try.prog 16 #[.slice p a.length cap, .slice q b.length cap'] W (KpPost (kD a b) W)) := Lib.hid (fun W h1 h2 => by rw [eK]; exact refKept_any p q a b _ _ _ _ W rfl rfl h1 h2 (by omega) (by omega))
    generalize dD a b = d at RD ⊢
    generalize sD a b = hs at PT RS hpl O7 o7 eS ⊢
    generalize kD a b = l at KS RK s1 s2 eK ⊢
    rw [g1] at a0 b0 c0 uX PT KS ⊢
    clear h g1 eS eK eD
    have S1 := Lib.hid s1
    have S2 := Lib.hid s2
    clear s1 s2
    have PE : Hid (∀ W r r' c c', Ptc W r hs → Ptc W r' hs → Calls Try.prog 13 #[.agg #[.slice r hs.length c], .agg #[.slice r' hs.length c']] W (BPost (.bool true) W)) := Lib.hid (fun W r r' c c' h1 h2 => by
      have := patchEq_any r r' hs hs _ _ c c' W rfl rfl h1 h2 (by omega)
      rwa [eqP_true rfl] at this)
    have SE : Hid (∀ W r r' c c', Sts W r l → Sts W r' l → Calls Try.prog 15 #[.slice r l.length c, .slice r' l.length c'] W (QPost (.bool true) W)) := Lib.hid (fun W r r' c c' h1 h2 => by
      have := equal_any r r' l l _ _ c c' W rfl rfl h1 h2
      rwa [eqS_true rfl] at this)
    have kX := cell_up o7 (.cells #[.int .i64 0, .int .i64 (tI a b)] 24 (0, 0))
    go_wp2_with fail
    clear a0 a1 b0 b1 c0 c1 a4 b4 c4 O7 o7
    generalize w4.alloc (.cells #[.int .i64 0, .int .i64 (tI a b)] 24 (0, 0)) = X at kX uX PT KS ⊢
    clear o7l
    generalize w2.heap.size = gb at kX ⊢
    have gl := cell_block_lt kX
    go_region_held3 (fun w' => w'.cell? ⟨gb, 0, none⟩ = some (.slice p2 hs.length cp2)) (go_keep)
      (first
        | (go_at_call 12
           refine (RD.out _ (HP.out.mono uX.drew) (HQ.out.mono uX.drew)).mono ?_
           rintro e x1 ⟨rfl, hx1⟩
           have B1 := Lib.hid ((Below.refl X.heap.size X).drew.trans hx1)
           have k1 := (B1.out.cell (p := ⟨gb, 0, none⟩) gl).trans kX
           clear hx1)
        | (go_at_call 14
           refine (RS.out _ (HP.out.mono (up_call uX B1.out)) (HQ.out.mono (up_call uX B1.out))).mono ?_
           rintro e x2 ⟨r2, rc2, rfl, hpt, -, -, hx2⟩
           have B2 := Lib.hid (B1.out.trans (hx2.mono B1.out.size))
           have k2 := (B2.out.cell (p := ⟨gb, 0, none⟩) gl).trans kX
           have PT2 := Lib.hid (hpt x2 (Nat.le_refl _) (fun _ _ _ => rfl))
           clear hx2 hpt)
        | (go_at_call 13
           refine (PE.out _ p2 r2 cp2 rc2 (PT.out.mono B2.out) PT2.out).mono ?_
           rintro e x3 ⟨rfl, hx3⟩
           have B3 := Lib.hid (B2.out.trans (hx3.mono B2.out.size))
           have k3 := (B3.out.cell (p := ⟨gb, 0, none⟩) gl).trans kX
           clear hx3)
        | (go_at_call 16
           refine (RK.out _ (HP.out.mono (up_call uX B3.out)) (HQ.out.mono (up_call uX B3.out))).mono ?_
           rintro e x4 ⟨v4, rfl, own4, hx4⟩
           obtain ⟨r4, rc4, rfl, hs4⟩ := sts_ofE own4 S1.out S2.out
           have B4 := Lib.hid (B3.out.trans (hx4.mono B3.out.size))
           have k4 := (B4.out.cell (p := ⟨gb, 0, none⟩) gl).trans kX
           have KS4 := Lib.hid hs4
           clear hx4 own4 hs4)
        | (go_at_call 15
           refine (SE.out _ p3 r4 cp3 rc4 (KS.out.mono B4.out) KS4.out).mono ?_
           rintro e x5 ⟨rfl, n5, rfl⟩)
        | (go_at_call 11
           refine (moved_any _).mono ?_
           rintro e x6 ⟨rfl, hx6⟩
           have u6 := up_call (below_drewN (up_call uX B4.out) n5) hx6
           have k6 := (hx6.cell (p := ⟨gb, 0, none⟩) (by have := B4.out.size; simp; omega)).trans k4))
    all_goals
      go_wp2_with fail
      go_ret
      exact ⟨rfl, u6⟩
  · have g1 : (tC a b != 0) = true := by simpa using tC_not h
    have eS : sD a b = [] := if_neg h
    have eK : kD a b = [] := if_neg h
    have eD : dD a b = 0 := if_neg h
    rw [eS] at o7 ⊢
    rw [eK, eD]
    clear h
    go_wp2_with fail
    refine (moved_any _).mono ?_
    rintro e x6 ⟨rfl, hx6⟩
    go_wp2_with fail
    go_ret
    exact ⟨rfl, up_call uX hx6⟩
end Go.Proofs.Ytpipcgmfjkacgaa
