/-
  The laws' own check 'replaced', walked.
-/
import Derived.Test.YtbgnckbgpiajjaaTqG
import Derived.Test.YtbgnckbgpiajjaaTpH
import Derived.Test.YtbgnckbgpiajjaaDifE
import Derived.Deep.RegionWith
namespace Go.Proofs.Ytbgnckbgpiajjaa
open Go.RowKit
set_option maxRecDepth 4000

abbrev rA : ByteArray := ⟨#[97]⟩
abbrev rB : ByteArray := ⟨#[98]⟩
abbrev rC : ByteArray := ⟨#[99]⟩
abbrev rD : ByteArray := ⟨#[100]⟩
def rP : List Tp.H := [⟨1, [rB], [rC, rD]⟩]
def rQ : List Tp.H := [⟨1, [rC, rD], [rB]⟩]
theorem r_txt : Lin.Txt [rA] ∧ Lin.Txt [rB] ∧ Lin.Txt [rC, rD] ∧ Lin.Txt [rA, rB] := by
  refine ⟨⟨by decide, ?_⟩, ⟨by decide, ?_⟩, ⟨by decide, ?_⟩, ⟨by decide, ?_⟩⟩ <;>
    (intro s hs; simp only [List.mem_cons, List.not_mem_nil, or_false] at hs; first | (subst hs; rfl) | (rcases hs with rfl | rfl <;> rfl))
theorem r_vp : Tp.Vp rP ∧ Tp.Vp rQ := by
  obtain ⟨h1, h2, h3, h4⟩ := r_txt
  exact ⟨⟨by decide, ⟨⟨by decide, by decide, Lin.vC_txt h2, Lin.vC_txt h3, by decide, by decide, by decide⟩, trivial⟩⟩, ⟨by decide, ⟨⟨by decide, by decide, Lin.vC_txt h3, Lin.vC_txt h2, by decide, by decide, by decide⟩, trivial⟩⟩⟩
theorem r_iv : Tp.iv 0 rP = rQ := rfl
theorem r_ap : Tp.ap [rA, rB] 0 rP = [rA, rC, rD] := rfl
theorem r_has : Tp.Has [rA, rB] ⟨1, [rB], [rC, rD]⟩ := ⟨by decide, by decide, rfl⟩
theorem r_apply : Tp.aC rP [rA, rB] = 0 ∧ Tp.aI rP [rA, rB] = 0 ∧ Tp.aT rP [rA, rB] = [rA, rC, rD] := by
  have h : Tp.Ok rP [rA, rB] := ⟨r_vp.1, Lin.vC_txt r_txt.2.2.2, fun h hh => by rw [List.mem_singleton.1 hh]; exact r_has, by rw [r_ap]; decide⟩
  have e := Tp.aC_zero.2 h
  exact ⟨e, Tp.aI_zero e, by unfold Tp.aT; rw [if_pos e, r_ap]⟩
theorem r_inv : Tp.vC' rP = 0 ∧ Tp.vI' rP = 0 ∧ Tp.vT rP = rQ := by
  have e := Tp.vC'_zero.2 ⟨r_vp.1, by rw [r_iv]; exact r_vp.2⟩
  refine ⟨e, ?_, by unfold Tp.vT; rw [if_pos e, r_iv]⟩
  unfold Tp.vI'
  rw [if_neg (by simp [Tp.pC_zero.2 r_vp.1]), if_neg (by rw [r_iv]; simp [Tp.pC_zero.2 r_vp.2])]

/-- a list of strings that was just laid -/
theorem sts_lit (w : World) (g : Nat) (ss : List ByteArray) (hg : g = w.heap.size) (hs : ∀ s ∈ ss, s.size ≤ 140737488351232) (hl : ss.length ≤ 1000) : Sts (w.alloc (.cells (ss.map strv).toArray 9)) (some ⟨g, 0, none⟩) ss := by
  subst hg
  refine ⟨hs, by omega, (fun h => by cases h), fun _ => ⟨w.heap.size, 0, rfl, by simp, fun i hi => ?_⟩⟩
  rw [Nat.zero_add, World.cell?_alloc_mark]
  simp [strv, List.getD_eq_getElem?_getD, hi]
theorem rd_lit (w : World) (g : Nat) (ss : List ByteArray) (hg : g = w.heap.size) (hs : ∀ s ∈ ss, s.size ≤ 140737488351232) (hl : ss.length ≤ 1000) : Rd (w.alloc (.cells (ss.map strv).toArray 9)) (some ⟨g, 0, none⟩, ss.length, ss.length) ss :=
  ⟨sts_lit w g ss hg hs hl, rfl, (fun h => by cases h), Nat.le_refl _⟩
theorem r_small (ss : List ByteArray) (h : ∀ s ∈ ss, s = rA ∨ s = rB ∨ s = rC ∨ s = rD) : ∀ s ∈ ss, s.size ≤ 140737488351232 := fun s hs => by
  rcases h s hs with rfl | rfl | rfl | rfl <;> decide

theorem hq1_any (X : World) : Calls Try.prog 76 #[.int .i64 1, .slice (some ⟨X.heap.size, 0, none⟩) 2 2, .slice (some ⟨X.heap.size + 1, 0, none⟩) 1 1]
    ((X.alloc (.cells #[.string rC, .string rD] 9 (0, 0))).alloc (.cells #[.string rB] 9 (0, 0))) (fun e w' => ∃ p, e = .returned (.agg #[.slice p 1 1]) ∧ Ptc w' p rQ ∧ Below X.heap.size X w') := by
  refine (hunk_any 1 (some ⟨X.heap.size, 0, none⟩, 2, 2) (some ⟨X.heap.size + 1, 0, none⟩, 1, 1) [rC, rD] [rB] _ ((rd_lit X X.heap.size [rC, rD] rfl (r_small _ (by simp)) (by decide)).mono (up_alloc (Below.refl _ _) _)) (rd_lit (X.alloc (.cells #[.string rC, .string rD] 9 (0, 0))) (X.heap.size + 1) [rB] (by simp) (r_small _ (by simp)) (by decide))).mono ?_
  rintro e wH ⟨pH, rfl, hpH, -, hbH⟩
  exact ⟨pH, rfl, hpH, (up_alloc (up_alloc (Below.refl _ _) _) _).trans (hbH.mono (by simp; omega))⟩
theorem hq2_any (X : World) : Calls Try.prog 76 #[.int .i64 1, .slice (some ⟨X.heap.size + 1, 0, none⟩) 2 2, .slice (some ⟨X.heap.size, 0, none⟩) 1 1]
    ((X.alloc (.cells #[.string rB] 9 (0, 0))).alloc (.cells #[.string rC, .string rD] 9 (0, 0))) (fun e w' => ∃ p, e = .returned (.agg #[.slice p 1 1]) ∧ Ptc w' p rQ ∧ Below X.heap.size X w') := by
  refine (hunk_any 1 (some ⟨X.heap.size + 1, 0, none⟩, 2, 2) (some ⟨X.heap.size, 0, none⟩, 1, 1) [rC, rD] [rB] _ (rd_lit (X.alloc (.cells #[.string rB] 9 (0, 0))) (X.heap.size + 1) [rC, rD] (by simp) (r_small _ (by simp)) (by decide)) ((rd_lit X X.heap.size [rB] rfl (r_small _ (by simp)) (by decide)).mono (up_alloc (Below.refl _ _) _))).mono ?_
  rintro e wH ⟨pH, rfl, hpH, -, hbH⟩
  exact ⟨pH, rfl, hpH, (up_alloc (up_alloc (Below.refl _ _) _) _).trans (hbH.mono (by simp; omega))⟩

set_option maxRecDepth 100000 in
set_option maxHeartbeats 3000000 in
theorem replaced_any (w : World) : Calls Try.prog 31 #[] w (TPost w) := by
  have RB := rd_lit w w.heap.size [rB] rfl (r_small _ (by simp)) (by decide)
  have RC := rd_lit (w.alloc (.cells #[.string rB] 9)) (w.heap.size + 1) [rC, rD] (by simp) (r_small _ (by simp)) (by decide)
  have u0 := up_alloc (up_alloc (Below.refl w.heap.size w) (.cells #[.string rB] 9 (0, 0))) (.cells #[.string rC, .string rD] 9 (0, 0))
  go_enter Try.func31, Try.ntmps31
  go_wp2_with fail
  refine (hunk_any 1 (some ⟨w.heap.size, 0, none⟩, 1, 1) (some ⟨w.heap.size + 1, 0, none⟩, 2, 2) [rB] [rC, rD] _ (RB.mono (up_alloc (Below.refl _ _) _)) RC).mono ?_
  rintro e w1 ⟨p, rfl, hp, hpn, hb1⟩
  have u1 := Lib.hid (up_alloc (up_call u0 hb1) (.cells #[.slice p 1 1] 41 (0, 0)))
  have P1 := Lib.hid (hp.mono (up_alloc (Below.refl _ _) (.cells #[.slice p 1 1] 41 (0, 0))))
  have O1 := Lib.hid (One.new w1 (.slice p 1 1) 41 w1.heap.size rfl)
  have HPN := Lib.hid hpn
  clear RB RC u0 hb1 hp hpn
  have oc := O1.out.c
  have S2 := Lib.hid (sts_lit (w1.alloc (.cells #[.slice p 1 1] 41 (0, 0))) (w1.heap.size + 1) [rA, rB] (by simp) (r_small _ (by simp)) (by decide))
  have u2 := Lib.hid (up_alloc u1.out (.cells #[.string rA, .string rB] 9 (0, 0)))
  have P2 := Lib.hid (P1.out.mono (up_alloc (Below.refl _ _) (.cells #[.string rA, .string rB] 9 (0, 0))))
  have O2 := Lib.hid (O1.out.alloc (.cells #[.string rA, .string rB] 9 (0, 0)))
  go_wp2_with fail
  refine (tpApply_any p (some ⟨w1.heap.size + 1, 0, none⟩) rP [rA, rB] _ 1 _ 2 _ rfl rfl P2.out (by decide) S2.out (fun h => by cases h) (by decide)).mono ?_
  rintro e w3 ⟨v, rfl, own, hb3⟩
  rw [r_apply.1, r_apply.2.1]
  rw [r_apply.2.2] at own
  obtain ⟨ps, cs, rfl, -, -⟩ := ownS_shape own
  have S3 := Lib.hid (ownS_sts own (r_small _ (by simp)) (by decide))
  rw [show ([rA, rC, rD] : List ByteArray).length = 3 from rfl]
  have u3 := Lib.hid (up_call u2.out hb3)
  have P3 := Lib.hid (P2.out.mono hb3)
  have O3 := Lib.hid (O2.out.up hb3)
  clear own hb3 oc O1 O2 P1 P2 S2 u1 u2
  have F4 := Lib.hid (Flt.new w3 0 0 25)
  have u4 := Lib.hid (up_alloc u3.out (.cells #[.int .i64 0, .int .i64 0] 25 (0, 0)))
  have P4 := Lib.hid (P3.out.mono (up_alloc (Below.refl _ _) (.cells #[.int .i64 0, .int .i64 0] 25 (0, 0))))
  have S4 := Lib.hid (S3.out.mono (up_alloc (Below.refl _ _) (.cells #[.int .i64 0, .int .i64 0] 25 (0, 0))))
  have oc4 := (O3.out.alloc (.cells #[.int .i64 0, .int .i64 0] 25 (0, 0))).c
  go_wp2_with fail
  refine (tpInvert_any p rP _ 1 _ rfl P4.out (by decide)).mono ?_
  rintro e w5 ⟨q, cq, rfl, hq, -, -, hb5⟩
  rw [r_inv.1, r_inv.2.1]
  rw [r_inv.2.2] at hq ⊢
  rw [show rQ.length = 1 from rfl]
  have u6 := Lib.hid (up_alloc (up_alloc (up_call u4.out hb5) (.cells #[.slice q 1 cq] 41 (0, 0))) (.cells #[.int .i64 0, .int .i64 0] 25 (0, 0)))
  have bb := up_alloc (up_alloc (Below.refl w5.heap.size w5) (.cells #[.slice q 1 cq] 41 (0, 0))) (.cells #[.int .i64 0, .int .i64 0] 25 (0, 0))
  have F6 := Lib.hid ((F4.out.up hb5).up bb)
  have S6 := Lib.hid ((S4.out.mono hb5).mono bb)
  have Q6 := Lib.hid (hq.mono bb)
  have G6 := Lib.hid ((One.new w5 (.slice q 1 cq) 41 w5.heap.size rfl).alloc (.cells #[.int .i64 0, .int .i64 0] 25 (0, 0)))
  have E6 : Hid (Flt ((w5.alloc (.cells #[.slice q 1 cq] 41 (0, 0))).alloc (.cells #[.int .i64 0, .int .i64 0] 25 (0, 0))) (w5.heap.size + 1) 0 0) := by
    have := Flt.new (w5.alloc (.cells #[.slice q 1 cq] 41 (0, 0))) 0 0 25
    rwa [World.size_alloc] at this
  clear hb5 hq bb oc4 F4 u4 P4 S4 O3 P3 S3 u3
  go_wp2_with fail
  obtain ⟨W, hW⟩ : ∃ W, W = (w5.alloc (.cells #[.slice q 1 cq] 41 (0, 0))).alloc (.cells #[.int .i64 0, .int .i64 0] 25 (0, 0)) := ⟨_, rfl⟩
  rw [← hW] at u6 F6 S6 Q6 G6 E6 ⊢
  clear hW
  obtain ⟨f0, -, -, -, fl⟩ := F6.out
  obtain ⟨g0, -, -, -, gl⟩ := E6.out
  have pc := G6.out.c
  have pl := G6.out.lt
  have SL3 : Hid (Sts (W.alloc (.cells #[.string rA, .string rC, .string rD] 9 (0, 0))) (some ⟨W.heap.size, 0, none⟩) [rA, rC, rD]) := Lib.hid (sts_lit W W.heap.size [rA, rC, rD] rfl (r_small _ (by simp)) (by decide))
  have y1 := World.new_ne W ⟨w3.heap.size, 0, none⟩ f0
  have y2 := World.new_ne W ⟨w5.heap.size + 1, 0, none⟩ g0
  have y3 := World.new_ne W ⟨w5.heap.size, 0, none⟩ pc
  have EQ := fun (X : World) (h1 : Sts X ps [rA, rC, rD]) (g : Nat) (h2 : Sts X (some ⟨g, 0, none⟩) [rA, rC, rD]) => equal_any ps (some ⟨g, 0, none⟩) [rA, rC, rD] [rA, rC, rD] 3 3 cs 3 X rfl rfl h1 h2
  rw [eqS_true rfl] at EQ
  have PQ := fun (X : World) (pH : Option Addr) (h1 : Ptc X q rQ) (h2 : Ptc X pH rQ) => patchEq_any q pH rQ rQ 1 1 cq 1 X rfl rfl h1 h2 (by decide)
  rw [eqP_true rfl] at PQ
  go_region_with (first
    | (go_at_call 22
       (with_reducible refine (EQ _ (S6.out.mono (up_alloc (Below.refl _ _) _).drew) W.heap.size (SL3.out.mono (Below.refl _ _).drew)).mono ?_)
       rintro e wE ⟨rfl, nE, hE⟩
       have BE : Hid (Below W.heap.size W wE) := Lib.hid (by rw [hE]; exact below_drewN (up_alloc (Below.refl _ _) _).drew _)
       clear hE
       have pcE := (BE.out.cell (p := ⟨w5.heap.size, 0, none⟩) pl).trans pc
       have plE := cell_block_lt pcE)
    | (go_at_call 76
       first
         | (with_reducible refine (hq1_any wE).mono ?_)
         | (with_reducible refine (hq2_any wE).mono ?_)
       rintro e wH ⟨pH, rfl, hpH, hbH⟩
       have BH : Hid (Below W.heap.size W wH) := Lib.hid (BE.out.trans (hbH.mono BE.out.size))
       have PH := Lib.hid hpH
       clear hpH hbH
       have pcH := (BH.out.cell (p := ⟨w5.heap.size, 0, none⟩) pl).trans pc)
    | (go_at_call 30
       (with_reducible refine (PQ _ pH (Q6.out.mono BH.out) PH.out).mono ?_)
       rintro e wF ⟨rfl, hbF⟩
       have BF : Hid (Below W.heap.size W wF) := Lib.hid (BH.out.trans (hbF.mono BH.out.size))
       clear hbF))
  all_goals
    have uF := up_call u6.out BF.out
    clear BF BE BH PH
    go_wp2_with fail
    go_ret
    exact ⟨rfl, uF⟩
end Go.Proofs.Ytbgnckbgpiajjaa
