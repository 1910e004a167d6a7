
/-
  The program's Invert, walked.
-/
import Derived.Test.YtkfloglpihbdjaaTqF
namespace Go.Proofs.Ytkfloglpihbdjaa
open Go.RowKit
set_option maxRecDepth 4000

/-- the blocks of the patch that is made -/
def OwnP (pg : Nat) (w : World) (g : Nat) : Prop := g = pg ∨ ∃ v, w.cell? ⟨pg, 0, none⟩ = some v ∧ v.ownBlock = some g
/-- k hunks of the inverse are made -/
structure InvI (hs : List Tp.H) (pg C k : Nat) (w : World) : Prop where
  ex : ∃ v qs, PBs C pg qs.length w v qs ∧ qs.map (·.1) = (Tp.iv 0 hs).take k
theorem visits_inv {hs : List Tp.H} {pg C : Nat} {w0 : World} (hv : Tp.Vp hs) (h0 : w0.heap.size ≤ pg) :
    Visits 39 #[.pointer (some ⟨pg, 0, none⟩)] hs w0 (fun k w => InvI hs pg C k w) (OwnP pg) := by
  refine ⟨fun k w g hI hO => ?_, fun k w1 w2 hI hb => ?_, fun k hk w1 o n hI hB ro rn => ?_⟩
  · obtain ⟨v, qs, hV, -⟩ := hI.ex
    have hpl := hV.pl
    have hbl := hV.bl
    rcases hO with rfl | ⟨u, hu, hb⟩
    · omega
    · rw [hV.pc] at hu
      cases hu
      exact (own_block hV.own g hb).2
  · obtain ⟨v, qs, hV, hm⟩ := hI.ex
    have hpl := hV.pl
    have hbl := hV.bl
    refine ⟨⟨v, qs, hV.up hb, hm⟩, fun g hO => ?_⟩
    rcases hO with rfl | ⟨u, hu, hg⟩
    · exact .inl rfl
    · rw [hb.cell (p := ⟨pg, 0, none⟩) (by dsimp only; omega)] at hu
      exact .inr ⟨u, hu, hg⟩
  · obtain ⟨v, qs, hV, hm⟩ := hI.ex
    have hl := hv.len
    have hq : qs.length ≤ 130 := by
      have := congrArg List.length hm
      rw [List.length_map, List.length_take, Tp.iv_len] at this
      omega
    have hc := Tp.ch_new hv.ch hs[k] (List.getElem_mem hk)
    have lo := (Lin.vC_zero hc.2).1
    have ln := (Lin.vC_zero hc.1).1
    refine (inv1_any pg C (hs[k].at' + Tp.gr (hs.take k)) o n hs[k] v qs w1 hV (ro.mono hB) (rn.mono hB) (by omega) (by omega) (by omega)).mono ?_
    rintro e w2 ⟨rfl, v2, qs', hV2, hm2, hb2, hk2, hn2⟩
    have hpl := hV.pl
    have hbl := hV.bl
    refine ⟨rfl, ⟨v2, qs', hV2, ?_⟩, hB.trans (hb2.mono h0), ⟨hb2.size, fun g hg hO => hk2 g hg (fun e => hO (.inl e)) (fun e => hO (.inr ⟨v, hV.pc, e⟩)), fun g hO => ?_⟩⟩
    · have hk' : k < (Tp.iv 0 hs).length := by rw [Tp.iv_len]; exact hk
      rw [hm2, hm, List.take_succ_eq_append_getElem hk', Tp.iv_get hs 0 k hk hk', Int.add_zero]
    · rcases hO with rfl | ⟨u, hu, hg⟩
      · exact .inl (.inl rfl)
      · rw [hV2.pc] at hu
        cases hu
        rcases hn2 g hg with e | e
        · exact .inl (.inr ⟨v, hV.pc, e⟩)
        · exact .inr e

set_option maxRecDepth 100000 in
set_option maxHeartbeats 8000000 in
theorem tpInvert_any (p : Option Addr) (hs : List Tp.H) (n cap : Nat) (w : World) (hn : n = hs.length) (hp : Ptc w p hs) (hl : hs.length ≤ 2513169434845) :
    Calls Try.prog 23 #[.agg #[.slice p n cap]] w (IvPost hs w) := by
  subst hn
  have HP := Lib.hid hp
  clear hp
  have up0 : Below w.heap.size w (((w.alloc (.cells #[.slice p hs.length cap] 48 (0, 0))).alloc (.cells #[.slice none 0 0] 48 (0, 0))).alloc (.cells #[.int .i64 0, .int .i64 0] 24 (0, 0))) := up_alloc (up_alloc (up_alloc (Below.refl _ _) _) _) _
  have O0 := Lib.hid (((One.new w (.slice p hs.length cap) 48 w.heap.size rfl).alloc (.cells #[.slice none 0 0] 48 (0, 0))).alloc (.cells #[.int .i64 0, .int .i64 0] 24 (0, 0)))
  have R0 := Lib.hid ((One.new (w.alloc (.cells #[.slice p hs.length cap] 48 (0, 0))) (.slice none 0 0) 48 (w.heap.size + 1) (by simp)).alloc (.cells #[.int .i64 0, .int .i64 0] 24 (0, 0)))
  have F0 : Hid (Flt (((w.alloc (.cells #[.slice p hs.length cap] 48 (0, 0))).alloc (.cells #[.slice none 0 0] 48 (0, 0))).alloc (.cells #[.int .i64 0, .int .i64 0] 24 (0, 0))) (w.heap.size + 1 + 1) 0 0) := by
    have := Flt.new ((w.alloc (.cells #[.slice p hs.length cap] 48 (0, 0))).alloc (.cells #[.slice none 0 0] 48 (0, 0))) 0 0 24
    rw [World.size_alloc, World.size_alloc] at this
    exact this
  go_enter Try.func23, Try.ntmps23
  go_wp2_with fail
  refine (tpValidate_any p hs _ cap _ rfl (HP.out.mono up0) hl).mono ?_
  rintro e w1 ⟨rfl, hb1⟩
  have u1 := up_call up0 hb1
  have O1 := Lib.hid (O0.out.up hb1)
  have R1 := Lib.hid (R0.out.up hb1)
  have F1 := Lib.hid (F0.out.up hb1)
  clear up0 hb1 O0 R0 F0
  by_cases hp0 : Tp.pC hs = 0
  · have VP := Lib.hid (Tp.pC_zero.1 hp0)
    have HP0 := Lib.hid hp0
    rw [hp0, Tp.pI_zero hp0]
    clear hp0
    have O2 := Lib.hid ((O1.out.alloc (.cells #[.int .i64 0, .int .i64 0] 24 (0, 0))).alloc (.cells #[.slice none 0 0] 48 (0, 0)))
    have R2 := Lib.hid ((R1.out.alloc (.cells #[.int .i64 0, .int .i64 0] 24 (0, 0))).alloc (.cells #[.slice none 0 0] 48 (0, 0)))
    have F2 := Lib.hid ((F1.out.alloc (.cells #[.int .i64 0, .int .i64 0] 24 (0, 0))).alloc (.cells #[.slice none 0 0] 48 (0, 0)))
    have G2 := Lib.hid (One.new (w1.alloc (.cells #[.int .i64 0, .int .i64 0] 24 (0, 0))) (.slice none 0 0) 48 (w1.heap.size + 1) (by simp))
    have u2 := Lib.hid (up_alloc (up_alloc u1 (.cells #[.int .i64 0, .int .i64 0] 24 (0, 0))) (.cells #[.slice none 0 0] 48 (0, 0)))
    have z2 : ((w1.alloc (.cells #[.int .i64 0, .int .i64 0] 24 (0, 0))).alloc (.cells #[.slice none 0 0] 48 (0, 0))).heap.size = w1.heap.size + 2 := by simp
    have hzw := u1.size
    have hf1 := F1.out.lt
    have oc := O2.out.c
    go_wp2_with fail
    have VI := Lib.hid (visits_inv (pg := w1.heap.size + 1) (C := w1.heap.size + 2) (w0 := w) VP.out (by omega))
    refine (eachHunk_any 39 #[.pointer (some ⟨w1.heap.size + 1, 0, none⟩)] _ _ p hs _ cap w _ rfl HP.out VP.out u2.out ⟨_, [], PBs.start _ _ _ G2.out.c G2.out.f (by omega) (by rw [z2]; omega), rfl⟩ (enters_of Try.func39 (by kernel_rfl) rfl) VI.out).mono ?_
    rintro e w3 ⟨rfl, hI3, hB3, hA3⟩
    obtain ⟨v, qs, hV, hm⟩ := hI3.ex
    have em : qs.map (·.1) = Tp.iv 0 hs := by rw [hm, List.take_of_length_le (by rw [Tp.iv_len]; omega)]
    obtain ⟨pv, cv, rfl, hpt, hcv, hlv⟩ := hV.ptc
    rw [em] at hpt
    have el : (qs.map (·.1)).length = (Tp.iv 0 hs).length := by rw [em]
    have NO : ∀ g, g ≠ w1.heap.size + 1 → ¬ OwnP (w1.heap.size + 1) ((w1.alloc (.cells #[.int .i64 0, .int .i64 0] 24 (0, 0))).alloc (.cells #[.slice none 0 0] 48 (0, 0))) g := fun g hg hO => by
      rcases hO with e | ⟨u, hu, hb⟩
      · exact hg e
      · rw [G2.out.c] at hu; cases hu; cases hb
    have R3 := Lib.hid (R2.out.same (hA3.block _ (by rw [z2]; omega) (NO _ (by omega))))
    have F3 := Lib.hid (F2.out.same (hA3.block _ (by rw [z2]; omega) (NO _ (by omega))))
    have gc := hV.pc
    have hz3 := hA3.size
    rw [z2] at hz3
    rw [el] at gc
    have HPT := Lib.hid hpt
    have HV := Lib.hid hV
    have EM := Lib.hid em
    have HCV := Lib.hid (And.intro hcv hlv)
    have UW := Lib.hid hB3
    have EL := Lib.hid el
    clear hpt hV hm em hI3 hB3 hA3 VI NO oc hcv hlv el
    go_wp2_with fail
    refine (validResult_any pv (Tp.iv 0 hs) _ cv _ rfl HPT.out (by rw [Tp.iv_len]; omega)).mono ?_
    rintro e w5 ⟨rfl, hb5⟩
    have R5 := R3.out.up hb5
    have F5 := F3.out.up hb5
    have uE := Lib.hid (up_call UW.out hb5)
    have HB5 := Lib.hid hb5
    have rc := R5.c
    have rf := R5.f
    have hz5 := hb5.size
    clear hb5
    by_cases hf : Tp.pC (Tp.iv 0 hs) = 0
    · have E1 : fitS (Tp.iv 0 hs) pv (Tp.iv 0 hs).length cv = .slice pv (Tp.iv 0 hs).length cv := if_pos hf
      have E2 : fitC (Tp.iv 0 hs) = 0 := if_pos hf
      have E3 : fitI (Tp.iv 0 hs) = 0 := if_pos hf
      have EC : Tp.vC' hs = 0 := Tp.vC'_zero.2 ⟨VP.out, Tp.pC_zero.1 hf⟩
      have EI : Tp.vI' hs = 0 := by unfold Tp.vI'; rw [if_neg (by simp [HP0.out]), if_neg (by simp [hf])]
      have ET : Tp.vT hs = Tp.iv 0 hs := if_pos EC
      have EE := Lib.hid (And.intro EC (And.intro EI ET))
      rw [E1, E2, E3]
      clear E1 E2 E3 EC EI ET hf
      obtain ⟨dr, d0, d1⟩ := put_both (v := .slice pv (Tp.iv 0 hs).length cv) F5 R5 (by omega) 0 0
      obtain ⟨a0, a1, a2, a3, a4⟩ := F5
      go_wp2_with fail
      have UF : Below w.heap.size w (((w5.setCell ⟨w.heap.size + 1, 0, none⟩ (.slice pv (Tp.iv 0 hs).length cv)).setCell ⟨w.heap.size + 1 + 1, 0, none⟩ (.int .i64 0)).setCell ⟨w.heap.size + 1 + 1, 1, none⟩ (.int .i64 0)) :=
        ((uE.out.setCell (by dsimp only; omega) _).setCell (by dsimp only; omega) _).setCell (by dsimp only; omega) _
      refine bodyPost_ret (v := .tuple #[.agg #[.slice pv (Tp.iv 0 hs).length cv], .agg #[.int .i64 0, .int .i64 0]]) (by simp [results, Try.results23, go_sem, d0, d1, dr]) rfl ⟨pv, cv, by rw [EE.out.1, EE.out.2.1, EE.out.2.2], ?_, HCV.out.1, by rw [EE.out.2.2, ← EL.out, List.length_map]; exact HCV.out.2, UF⟩
      rw [EE.out.2.2]
      obtain ⟨p', c', e', hp', -, -⟩ := HV.out.ptcW (((w5.setCell ⟨w.heap.size + 1, 0, none⟩ (.slice pv (Tp.iv 0 hs).length cv)).setCell ⟨w.heap.size + 1 + 1, 0, none⟩ (.int .i64 0)).setCell ⟨w.heap.size + 1 + 1, 1, none⟩ (.int .i64 0)) (by rw [World.size_setCell, World.size_setCell, World.size_setCell]; exact hz5)
        (fun k h1 h2 => by rw [Below.heap_setCell _ _ _ _ (by dsimp only; omega), Below.heap_setCell _ _ _ _ (by dsimp only; omega), Below.heap_setCell _ _ _ _ (by dsimp only; omega), HB5.out.block k h2])
      rw [EM.out] at hp'
      injection e' with e1 _ _
      rw [← e1] at hp'
      exact hp'
    · have E1 : fitS (Tp.iv 0 hs) pv (Tp.iv 0 hs).length cv = .slice none 0 0 := if_neg hf
      have E2 : fitC (Tp.iv 0 hs) = 10 := if_neg hf
      have E3 : fitI (Tp.iv 0 hs) = -1 := if_neg hf
      have EC : Tp.vC' hs = 10 := by unfold Tp.vC'; rw [if_neg (by simp [HP0.out]), if_pos hf]
      have EI : Tp.vI' hs = -1 := by unfold Tp.vI'; rw [if_neg (by simp [HP0.out]), if_pos hf]
      have ET : Tp.vT hs = [] := if_neg (by rw [EC]; decide)
      have EE := Lib.hid (And.intro EC (And.intro EI ET))
      rw [E1, E2, E3]
      clear E1 E2 E3 EC EI ET hf
      obtain ⟨dr, d0, d1⟩ := put_both (v := .slice none 0 0) F5 R5 (by omega) 10 (-1)
      obtain ⟨a0, a1, a2, a3, a4⟩ := F5
      go_wp2_with fail
      refine bodyPost_ret (v := .tuple #[.agg #[.slice none 0 0], .agg #[.int .i64 10, .int .i64 (-1)]]) (by simp [results, Try.results23, go_sem, d0, d1, dr]) rfl ⟨none, 0, by rw [EE.out.1, EE.out.2.1, EE.out.2.2]; rfl, by rw [EE.out.2.2]; exact ⟨fun _ => rfl, fun h => (h rfl).elim⟩, fun _ => rfl, by rw [EE.out.2.2]; exact Nat.zero_le _, ?_⟩
      exact ((uE.out.setCell (by dsimp only; omega) _).setCell (by dsimp only; omega) _).setCell (by dsimp only; omega) _
  · have E : Hid (Tp.vC' hs = Tp.pC hs ∧ Tp.vI' hs = Tp.pI hs ∧ Tp.vT hs = []) := Lib.hid (by
      have e : Tp.vC' hs = Tp.pC hs := if_pos hp0
      exact ⟨e, if_pos hp0, if_neg (by rw [e]; exact hp0)⟩)
    have hne := hp0
    clear hp0
    obtain ⟨dr, d0, d1⟩ := put_both (v := .slice none 0 0) (F1.out.alloc (.cells #[.int .i64 (Tp.pC hs), .int .i64 (Tp.pI hs)] 24 (0, 0))) (R1.out.alloc (.cells #[.int .i64 (Tp.pC hs), .int .i64 (Tp.pI hs)] 24 (0, 0))) (by omega) (Tp.pC hs) (Tp.pI hs)
    have rc := cell_up R1.out.c (.cells #[.int .i64 (Tp.pC hs), .int .i64 (Tp.pI hs)] 24 (0, 0))
    have rf := frozen_up R1.out.c R1.out.f (.cells #[.int .i64 (Tp.pC hs), .int .i64 (Tp.pI hs)] 24 (0, 0))
    obtain ⟨a0, a1, a2, a3, a4⟩ := F1.out
    go_wp2_with fail
    go_region
    all_goals
      go_wp2_with fail
      refine bodyPost_ret (v := .tuple #[.agg #[.slice none 0 0], .agg #[.int .i64 (Tp.pC hs), .int .i64 (Tp.pI hs)]]) (by simp [results, Try.results23, go_sem, d0, d1, dr]) rfl ⟨none, 0, by rw [E.out.1, E.out.2.1, E.out.2.2]; rfl, by rw [E.out.2.2]; exact ⟨fun _ => rfl, fun h => (h rfl).elim⟩, fun _ => rfl, by rw [E.out.2.2]; exact Nat.zero_le _, ?_⟩
      (repeat' (first | (with_reducible exact Below.refl _ _) | (with_reducible assumption) | (with_reducible refine below_drewN ?_ _) | (with_reducible refine Below.setCell ?_ ?_ _) | (with_reducible refine Below.alloc ?_ ?_ _) | (with_reducible refine Below.drew ?_) | go_size))
end Go.Proofs.Ytkfloglpihbdjaa
