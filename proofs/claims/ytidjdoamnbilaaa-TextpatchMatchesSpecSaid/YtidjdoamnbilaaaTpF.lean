/-
  The reference's Invert, walked.
-/
import Derived.Test.YtidjdoamnbilaaaTpE
namespace Go.Proofs.Ytidjdoamnbilaaa
open Go.RowKit

/-- the inverse while it is made: k hunks lie in the slice of block pg -/
structure Iv (hs : List Tp.H) (w : World) (pg k : Nat) (wr : World) : Prop where
  ex : ∃ v rs, One wr pg v ∧ OwnE hkE (pg + 1) wr v rs ∧ rs.length = k ∧ ∀ (j : Nat) (h : j < rs.length) (h' : j < hs.length), (rs[j]).1 = (hs[j]).at' + Tp.gr (hs.take j) ∧ Rd w (rs[j]).2.1 (hs[j]).new ∧ Rd w (rs[j]).2.2 (hs[j]).old
theorem Iv.start (hs : List Tp.H) (w wr : World) (pg : Nat) (h : One wr pg (.slice none 0 0)) : Iv hs w pg 0 wr :=
  ⟨⟨_, [], h, ownE_nil _ _ _, rfl, fun j h => by simp at h⟩⟩
theorem iv_ptc {hs : List Tp.H} {w W : World} {base : Nat} {v : Value} {rs : List (Int × Sv × Sv)} (h2 : OwnE hkE base W v rs) (h3 : rs.length = hs.length)
    (h4 : ∀ (j : Nat) (h : j < rs.length) (h' : j < hs.length), (rs[j]).1 = (hs[j]).at' + Tp.gr (hs.take j) ∧ Rd w (rs[j]).2.1 (hs[j]).new ∧ Rd w (rs[j]).2.2 (hs[j]).old) (hb : Below w.heap.size w W) :
    ∃ p cap, v = .slice p (Tp.iv 0 hs).length cap ∧ Ptc W p (Tp.iv 0 hs) ∧ (p = none → cap = 0) ∧ (Tp.iv 0 hs).length ≤ cap := by
  obtain ⟨p, cap, e, hr, hc, hn, -⟩ := row_of_own h2
  have e1 : (Tp.iv 0 hs).length = rs.length := by rw [Tp.iv_len, h3]
  refine ⟨p, cap, by rw [e1, ← e], ⟨fun hp => List.length_eq_zero_iff.1 (by rw [e1, hr.nil' hp]; rfl), fun hne => ?_⟩, hc, by rw [e1]; exact hn⟩
  obtain ⟨b, off, k1, k2, k3⟩ := hr.at' (fun e => hne (List.length_eq_zero_iff.1 (by rw [e1, e]; rfl)))
  refine ⟨b, off, k1, k2, fun i hi => ?_⟩
  have hi' : i < rs.length := by omega
  obtain ⟨q1, q2, q3⟩ := h4 i hi' (by omega)
  have kk := k3 i hi'
  rw [Tp.iv_get hs 0 i (by omega) hi]
  refine ⟨(rs[i]).2.1, (rs[i]).2.2, ?_, kk 1 _ rfl, kk 2 _ rfl, q2.mono hb, q3.mono hb⟩
  have k0 : W.cell? ⟨b, off + i * 3, none⟩ = some (.int .i64 (rs[i]).1) := kk 0 _ rfl
  rw [k0, q1]
  show some (Value.int .i64 (hs[i].at' + Tp.gr (hs.take i))) = some (Value.int .i64 (hs[i].at' + 0 + Tp.gr (hs.take i)))
  rw [Int.add_zero]

/-- a hunk more: the row was appended and the out patch's cell written -/
theorem iv_push {hs : List Tp.H} {w W wr w3 : World} {k pg gg cc : Nat} {v : Value} {rs : List (Int × Sv × Sv)} {o n : Sv} (hk : k < hs.length) (hrl : rs.length = k)
    (hra : ∀ (j : Nat) (h : j < rs.length) (h' : j < hs.length), (rs[j]).1 = (hs[j]).at' + Tp.gr (hs.take j) ∧ Rd w (rs[j]).2.1 (hs[j]).new ∧ Rd w (rs[j]).2.2 (hs[j]).old)
    (ro : Rd w o hs[k].old) (rn : Rd w n hs[k].new) (own : OwnE hkE (pg + 1) wr v rs) (og : One wr pg v) (hB : Below pg W wr) (hpW : pg < wr.heap.size)
    (own2 : OwnE hkE (pg + 1) w3 (.slice (some ⟨gg, 0, none⟩) (rs.length + 1) cc) (rs ++ [(hs[k].at' + Tp.gr (hs.take k), n, o)])) (G2 : wr.grownBy w3 v.ownBlock) :
    Iv hs w pg (k + 1) (w3.setCell ⟨pg, 0, none⟩ (.slice (some ⟨gg, 0, none⟩) (k + 1) cc)) ∧ Below pg W (w3.setCell ⟨pg, 0, none⟩ (.slice (some ⟨gg, 0, none⟩) (k + 1) cc)) := by
  have hv : v.ownBlock ≠ some pg := fun e => by have := own_block own _ e; omega
  have z1 := G2.cell og.c (Ne.symm hv)
  have z2 : w3.frozen? ⟨pg, 0, none⟩ = false := by rw [G2.frozen_far ⟨pg, 0, none⟩ (by dsimp only; omega) (Ne.symm hv), og.f]
  rw [hrl] at own2
  refine ⟨⟨_, _, ⟨World.cell?_setCell_same _ _ _ z1, by rw [World.frozen?_setCell]; exact z2⟩, ownsRow_setCell_below own2 (a := ⟨pg, 0, none⟩) (by dsimp only; omega) _, by simp [hrl], fun j h h' => ?_⟩,
    (hB.grown G2 (by omega) fun b hb => by have := own_block own _ hb; omega).setCell (by dsimp only; omega) _⟩
  rcases Nat.lt_or_ge j rs.length with hj | hj
  · rw [List.getElem_append_left hj]
    exact hra j hj h'
  · have : j = k := by simp at h; omega
    subst this
    subst hrl
    rw [List.getElem_append_right (Nat.le_refl _)]
    simp only [Nat.sub_self, List.getElem_cons_zero]
    exact ⟨trivial, rn, ro⟩

def IvPost (hs : List Tp.H) (w : World) (e : Ending) (w' : World) : Prop :=
  ∃ p cap, e = .returned (.tuple #[.agg #[.slice p (Tp.vT hs).length cap], .agg #[.int .i64 (Tp.vC' hs), .int .i64 (Tp.vI' hs)]]) ∧ Ptc w' p (Tp.vT hs) ∧ (p = none → cap = 0) ∧ (Tp.vT hs).length ≤ cap ∧ Below w.heap.size w w'

set_option maxRecDepth 100000 in
set_option maxHeartbeats 8000000 in
theorem refInvert_any (p : Option Addr) (hs : List Tp.H) (n cap : Nat) (w : World) (hn : n = hs.length) (hp : Ptc w p hs) (hl : hs.length ≤ 2513169434845) :
    Calls Try.prog 15 #[.agg #[.slice p n cap]] w (IvPost hs w) := by
  subst hn
  have HP := Lib.hid hp
  clear hp
  have up0 : Below w.heap.size w (((w.alloc (.cells #[.slice p hs.length cap] 24 (0, 0))).alloc (.cells #[.slice none 0 0] 24 (0, 0))).alloc (.cells #[.int .i64 0, .int .i64 0] 27 (0, 0))) := up_alloc (up_alloc (up_alloc (Below.refl _ _) _) _) _
  have O0 := Lib.hid (((One.new w (.slice p hs.length cap) 24 w.heap.size rfl).alloc (.cells #[.slice none 0 0] 24 (0, 0))).alloc (.cells #[.int .i64 0, .int .i64 0] 27 (0, 0)))
  have R0 := Lib.hid ((One.new (w.alloc (.cells #[.slice p hs.length cap] 24 (0, 0))) (.slice none 0 0) 24 (w.heap.size + 1) (by simp)).alloc (.cells #[.int .i64 0, .int .i64 0] 27 (0, 0)))
  have F0 : Hid (Flt (((w.alloc (.cells #[.slice p hs.length cap] 24 (0, 0))).alloc (.cells #[.slice none 0 0] 24 (0, 0))).alloc (.cells #[.int .i64 0, .int .i64 0] 27 (0, 0))) (w.heap.size + 1 + 1) 0 0) := by
    have := Flt.new ((w.alloc (.cells #[.slice p hs.length cap] 24 (0, 0))).alloc (.cells #[.slice none 0 0] 24 (0, 0))) 0 0 27
    rw [World.size_alloc, World.size_alloc] at this
    exact this
  go_enter Try.func15, Try.ntmps15
  go_wp2_with fail
  refine (refPatchFault_any p hs _ cap _ rfl (HP.out.mono up0) hl).mono ?_
  rintro e w1 ⟨rfl, hb1⟩
  have u1 := up_call up0 hb1
  have O1 := Lib.hid (O0.out.up hb1)
  have R1 := Lib.hid (R0.out.up hb1)
  have F1 := Lib.hid (F0.out.up hb1)
  clear up0 hb1 O0 R0 F0
  by_cases hp0 : Tp.pC hs = 0
  · have VP := Lib.hid (Tp.pC_zero.1 hp0)
    have HP0 := Lib.hid hp0
    rw [hp0]
    clear hp0
    have O2 := Lib.hid ((O1.out.alloc (.cells #[.int .i64 0, .int .i64 (Tp.pI hs)] 27 (0, 0))).alloc (.cells #[.slice none 0 0] 24 (0, 0)))
    have R2 := Lib.hid ((R1.out.alloc (.cells #[.int .i64 0, .int .i64 (Tp.pI hs)] 27 (0, 0))).alloc (.cells #[.slice none 0 0] 24 (0, 0)))
    have F2 := Lib.hid ((F1.out.alloc (.cells #[.int .i64 0, .int .i64 (Tp.pI hs)] 27 (0, 0))).alloc (.cells #[.slice none 0 0] 24 (0, 0)))
    have G2 := Lib.hid (One.new (w1.alloc (.cells #[.int .i64 0, .int .i64 (Tp.pI hs)] 27 (0, 0))) (.slice none 0 0) 24 (w1.heap.size + 1) (by simp))
    have u2 := up_alloc (up_alloc u1 (.cells #[.int .i64 0, .int .i64 (Tp.pI hs)] 27 (0, 0))) (.cells #[.slice none 0 0] 24 (0, 0))
    have z2 : ((w1.alloc (.cells #[.int .i64 0, .int .i64 (Tp.pI hs)] 27 (0, 0))).alloc (.cells #[.slice none 0 0] 24 (0, 0))).heap.size = w1.heap.size + 2 := by simp
    have hzw := u1.size
    have hf1 := F1.out.lt
    go_wp2_with fail
    go_loopw [6] (fun i wr => ∃ k : Nat, k ≤ hs.length ∧ i = .int .i64 k ∧ Hid (Iv hs w (w1.heap.size + 1) k wr) ∧ Hid (Below (w1.heap.size + 1) ((w1.alloc (.cells #[.int .i64 0, .int .i64 (Tp.pI hs)] 27 (0, 0))).alloc (.cells #[.slice none 0 0] 24 (0, 0))) wr)) (fun i _ => hs.length - (intOf i).toNat)
    case atStart => exact ⟨0, Nat.zero_le _, rfl, Lib.hid (Iv.start _ _ _ _ G2.out), Lib.hid (Below.refl _ _)⟩
    case round =>
      obtain ⟨k, hk, rfl, hI, hB⟩ := hrel
      have uw := u2.trans (hB.out.mono (show w.heap.size ≤ w1.heap.size + 1 by omega))
      have oc : wr.cell? ⟨w.heap.size, 0, none⟩ = some (.slice p hs.length cap) := (hB.out.cell (p := ⟨w.heap.size, 0, none⟩) (by dsimp only; omega)).trans O2.out.c
      have hzr := hB.out.size
      rw [z2] at hzr
      have b0 : (0 : Int) ≤ (k : Int) := by omega
      by_cases hlt : k < hs.length
      · have g1 : decide (k < hs.length) = true := by simpa using hlt
        have b1 : (k : Int) < (hs.length : Int) := by omega
        obtain ⟨b, off, rfl, hbb0, ⟨o1, o2, o3⟩, ⟨n1, n2, n3⟩, c0, c1, c2, r1, r2⟩ := HP.out.cell hlt
        have hbb : b < wr.heap.size := Nat.lt_of_lt_of_le hbb0 uw.size
        replace c0 := (uw.cell (p := ⟨b, off + k * 3, none⟩) hbb0).trans c0
        replace c1 := (uw.cell (p := ⟨b, off + k * 3 + 1, none⟩) hbb0).trans c1
        replace c2 := (uw.cell (p := ⟨b, off + k * 3 + 2, none⟩) hbb0).trans c2
        have RW := Lib.hid (And.intro r1 r2)
        obtain ⟨wo, rfl⟩ : ∃ wo, wo = wr := ⟨_, rfl⟩
        have UW := Lib.hid uw
        clear uw
        have BD : Hid (∀ (j : Nat) (h : j < hs.length), (hs[j]).old.length ≤ 120 ∧ (hs[j]).new.length ≤ 120 ∧ 0 ≤ (hs[j]).at' ∧ (hs[j]).at' ≤ 120) := Lib.hid (fun j h => by
          obtain ⟨⟨pr, hok⟩, -⟩ := Tp.ch_at VP.out.ch j h
          exact ⟨(Lin.vC_zero hok.old).1, (Lin.vC_zero hok.new).1, hok.lo, hok.hi⟩)
        have GB : Hid (∀ j, j ≤ k → -(120 * 130 : Int) ≤ Tp.gr (hs.take j) ∧ Tp.gr (hs.take j) ≤ 120 * 130) := Lib.hid (fun j h => by
          have e := VP.out.len
          have q := Tp.gr_bound (hs.take j) (fun x hx => by
            have := Tp.ch_new VP.out.ch x (List.mem_of_mem_take hx)
            exact ⟨(Lin.vC_zero this.2).1, (Lin.vC_zero this.1).1⟩)
          rw [List.length_take] at q
          omega)
        go_wp2_with fail
        go_loopw [7, 8] (fun at' i wq => ∃ j : Nat, j ≤ k ∧ i = .int .i64 j ∧ at' = .int .i64 (hs[k].at' + Tp.gr (hs.take j)) ∧ Hid (Below wo.heap.size wo wq)) (fun _ i _ => k - (intOf i).toNat)
        case atStart => exact ⟨0, Nat.zero_le _, rfl, by simp [Tp.gr], Lib.hid (Below.refl _ _)⟩
        case round =>
          obtain ⟨j, hj, rfl, rfl, hBj⟩ := hrel
          have c0' : (0 : Int) ≤ (j : Int) := by omega
          have hzj := hBj.out.size
          have ocq : wr.cell? ⟨w.heap.size, 0, none⟩ = some (.slice (some ⟨b, off, none⟩) hs.length cap) := (hBj.out.cell (p := ⟨w.heap.size, 0, none⟩) (by dsimp only; omega)).trans oc
          by_cases hjk : j < k
          · have g2 : decide (j < k) = true := by simpa using hjk
            have b2 : (j : Int) < (hs.length : Int) := by omega
            obtain ⟨b', off', eb, hbb', ⟨p1, p2, p3⟩, ⟨m1, m2, m3⟩, e0, e1, e2, s1, s2⟩ := (HP.out.mono (UW.out.trans (hBj.out.mono (show w.heap.size ≤ wo.heap.size by omega)))).cell (show j < hs.length by omega)
            injection eb with eb
            injection eb with eb1 eb2 _
            subst eb1 eb2
            have l1 := s1.len
            have l2 := s2.len
            dsimp only at l1 l2
            subst l1 l2
            simp only [sv] at e1 e2
            have GN := Lib.hid (Tp.gr_next hs j (by omega))
            have q1 := BD.out j (by omega)
            have q2 := BD.out k hlt
            have q3 := GB.out j (by omega)
            have wz : IntKind.i64.wrap (hs[k].at' + Tp.gr (hs.take j) + ((hs[j].new.length : Int) - hs[j].old.length)) = hs[k].at' + Tp.gr (hs.take j) + ((hs[j].new.length : Int) - hs[j].old.length) := IntWalk.i64_in _ (by omega)
            go_wp2_with fail
            refine (refGrowth_any _ _ _ _ _ _ _ _ (by omega) (by omega)).mono ?_
            rintro e w3 ⟨rfl, hb3⟩
            have hb3' := Lib.hid hb3
            clear hb3
            go_wp2_with fail
            go_roundw
            case rel => exact ⟨j + 1, by omega, by go_num, by rw [GN.out]; congr 1; omega, Lib.hid (hBj.out.trans (hb3'.out.mono hzj))⟩
            case measure => first | (simp [intOf]; done) | (simp [intOf]; omega)
          · have g2 : decide (j < k) = false := by simpa using hjk
            obtain rfl : j = k := by omega
            obtain ⟨v, rs, og, ho, hrl, hra⟩ := hI.out.ex
            have og' := og.up hBj.out
            have OW := Lib.hid (ho.up hBj.out)
            have l1 := r1.len
            have l2 := r2.len
            dsimp only at l1 l2
            subst l1 l2
            simp only [sv] at c1 c2
            have d1 : wr.cell? ⟨b, off + j * 3 + 1, none⟩ = some (.slice o1 hs[j].old.length o3) := (hBj.out.cell (p := ⟨b, off + j * 3 + 1, none⟩) hbb).trans c1
            have d2 : wr.cell? ⟨b, off + j * 3 + 2, none⟩ = some (.slice n1 hs[j].new.length n3) := (hBj.out.cell (p := ⟨b, off + j * 3 + 2, none⟩) hbb).trans c2
            have oc5 := og'.c
            have of5 := og'.f
            have HRA := Lib.hid (And.intro hrl hra)
            have hrl' : rs.length = j := hrl
            have hv : v.ownBlock ≠ some (w1.heap.size + 1) := fun e => by have := own_block OW.out _ e; omega
            have qa := cell_up oc5 (.cells #[.int .i64 (hs[j].at' + Tp.gr (hs.take j)), .slice n1 hs[j].new.length n3, .slice o1 hs[j].old.length o3] 48 (0, 0))
            have G0 := World.grownBy_alloc wr (.cells #[.int .i64 (hs[j].at' + Tp.gr (hs.take j)), .slice n1 hs[j].new.length n3, .slice o1 hs[j].old.length o3] 48 (0, 0)) none
            have hlen := VP.out.len
            have NX : ∀ (gg cc : Nat) (w3 : World), OwnE hkE (w1.heap.size + 1 + 1) w3 (.slice (some ⟨gg, 0, none⟩) (rs.length + 1) cc) (rs ++ [(hs[j].at' + Tp.gr (hs.take j), (n1, hs[j].new.length, n3), (o1, hs[j].old.length, o3))]) → wr.grownBy w3 v.ownBlock →
                Iv hs w (w1.heap.size + 1) (j + 1) (w3.setCell ⟨w1.heap.size + 1, 0, none⟩ (.slice (some ⟨gg, 0, none⟩) (j + 1) cc)) ∧ Below (w1.heap.size + 1) ((w1.alloc (.cells #[.int .i64 0, .int .i64 (Tp.pI hs)] 27 (0, 0))).alloc (.cells #[.slice none 0 0] 24 (0, 0))) (w3.setCell ⟨w1.heap.size + 1, 0, none⟩ (.slice (some ⟨gg, 0, none⟩) (j + 1) cc)) :=
              fun gg cc w3 h1 h2 => iv_push hlt HRA.out.1 HRA.out.2 RW.out.1 RW.out.2 OW.out og' (hB.out.trans (hBj.out.mono (by omega))) (by omega) h1 h2
            have NXH := Lib.hid NX
            clear NX
            clear r1 r2 hra hrl ho og og' c0 c1 c2
            go_wp2_with fail
            go_region_law (skip; refine step_appE hkE _ (by rfl) (.tmp 43) (.tmp 58) (by rfl) (w1.heap.size + 2) v rs ((hs[j].at' + Tp.gr (hs.take j)), (n1, hs[j].new.length, n3), (o1, hs[j].old.length, o3)) ⟨wr.heap.size, 0, none⟩ 1 (by rfl) (OW.out.alloc _) (by rfl) (hunk_one _ _ (n1, hs[j].new.length, n3) (o1, hs[j].old.length, o3) _) (by simp [hkE]; omega) (by first | omega | (simp; omega)) (by simp; omega) (wr.heap.size + 1) (by simp) ?_; intro gg cc w3 own2 gr2 hat2 hlt2
                           have G2 : World.grownBy wr w3 v.ownBlock := by refine grow_trans ?_ gr2; exact ⟨G0.os, G0.tape, G0.output, G0.size, G0.block⟩
                           have z1 := G2.cell oc5 (Ne.symm hv)
                           have z2 : w3.frozen? ⟨w1.heap.size + 1, 0, none⟩ = false := by rw [G2.frozen_far ⟨w1.heap.size + 1, 0, none⟩ (by dsimp only; omega) (Ne.symm hv), of5])
            all_goals
              have HR := Lib.hid (NXH.out gg cc w3 own2 G2)
              clear own2 gr2 hat2 G2 z1 z2
              go_wp2_with fail
              go_roundw
              case rel => exact ⟨j + 1, hlt, by go_num, Lib.hid HR.out.1, Lib.hid HR.out.2⟩
              case measure => first | (simp [intOf]; done) | (simp [intOf]; omega)
      · have g1 : decide (k < hs.length) = false := by simpa using hlt
        obtain rfl : k = hs.length := by omega
        obtain ⟨v, rs, og, ho, hrl, hra⟩ := hI.out.ex
        obtain ⟨pv, cv, rfl, hpt, hcv, hlv⟩ := iv_ptc ho hrl hra uw
        have HPT := Lib.hid hpt
        have HCV := Lib.hid (And.intro hcv hlv)
        have HOW := Lib.hid ho
        have HRA := Lib.hid (And.intro hrl hra)
        have gc := og.c
        have UW := Lib.hid uw
        clear hpt hcv hlv hlt uw og ho hrl hra
        go_wp2_with fail
        refine (refFits_any pv (Tp.iv 0 hs) _ cv _ rfl HPT.out (by rw [Tp.iv_len]; omega)).mono ?_
        rintro e w5 ⟨rfl, hb5⟩
        have R5 : One w5 (w.heap.size + 1) (.slice none 0 0) := ⟨by rw [hb5.cell (p := ⟨w.heap.size + 1, 0, none⟩) (by dsimp only; omega), hB.out.cell (p := ⟨w.heap.size + 1, 0, none⟩) (by dsimp only; omega), R2.out.c],
          by rw [hb5.frozen (p := ⟨w.heap.size + 1, 0, none⟩) (by dsimp only; omega), hB.out.frozen (p := ⟨w.heap.size + 1, 0, none⟩) (by dsimp only; omega), R2.out.f]⟩
        have F5 : Flt w5 (w.heap.size + 1 + 1) 0 0 := (F2.out.mono hB.out (by omega)).up hb5
        have uE := Lib.hid (up_call UW.out hb5)
        have HOW5 := Lib.hid (HOW.out.up hb5)
        have rc := R5.c
        have rf := R5.f
        by_cases hf : Tp.pC (Tp.iv 0 hs) = 0
        · have E1 : fitS (Tp.iv 0 hs) pv (Tp.iv 0 hs).length cv = .slice pv (Tp.iv 0 hs).length cv := if_pos hf
          have E2 : fitC (Tp.iv 0 hs) = 0 := if_pos hf
          have E3 : fitI (Tp.iv 0 hs) = 0 := if_pos hf
          have EC : Tp.vC' hs = 0 := Tp.vC'_zero.2 ⟨VP.out, Tp.pC_zero.1 hf⟩
          have EI : Tp.vI' hs = 0 := by unfold Tp.vI'; rw [if_neg (by simp [HP0.out]), if_neg (by simp [hf])]
          have ET : Tp.vT hs = Tp.iv 0 hs := if_pos EC
          have EE := Lib.hid (And.intro EC (And.intro EI ET))
          rw [E1, E2, E3]
          clear E1 E2 E3 EC EI ET hf
          obtain ⟨dr, d0, d1⟩ := put_both (v := .slice pv (Tp.iv 0 hs).length cv) F5 R5 (by omega) 0 0
          obtain ⟨a0, a1, a2, a3, a4⟩ := F5
          go_wp2_with fail
          have UF : Below w.heap.size w (((w5.setCell ⟨w.heap.size + 1, 0, none⟩ (.slice pv (Tp.iv 0 hs).length cv)).setCell ⟨w.heap.size + 1 + 1, 0, none⟩ (.int .i64 0)).setCell ⟨w.heap.size + 1 + 1, 1, none⟩ (.int .i64 0)) :=
            ((uE.out.setCell (by dsimp only; omega) _).setCell (by dsimp only; omega) _).setCell (by dsimp only; omega) _
          refine bodyPost_ret (v := .tuple #[.agg #[.slice pv (Tp.iv 0 hs).length cv], .agg #[.int .i64 0, .int .i64 0]]) (by simp [results, Try.results15, go_sem, d0, d1, dr]) rfl ⟨pv, cv, by rw [EE.out.1, EE.out.2.1, EE.out.2.2], ?_, HCV.out.1, by rw [EE.out.2.2]; exact HCV.out.2, UF⟩
          rw [EE.out.2.2]
          obtain ⟨p', c', e', hp', -, -⟩ := iv_ptc (ownsRow_setCell_below (ownsRow_setCell_below (ownsRow_setCell_below HOW5.out (a := ⟨w.heap.size + 1, 0, none⟩) (by dsimp only; omega) (.slice pv (Tp.iv 0 hs).length cv)) (a := ⟨w.heap.size + 1 + 1, 0, none⟩) (by dsimp only; omega) (.int .i64 0)) (a := ⟨w.heap.size + 1 + 1, 1, none⟩) (by dsimp only; omega) (.int .i64 0)) HRA.out.1 HRA.out.2 UF
          injection e' with e1 _ _
          rw [← e1] at hp'
          exact hp'
        · have E1 : fitS (Tp.iv 0 hs) pv (Tp.iv 0 hs).length cv = .slice none 0 0 := if_neg hf
          have E2 : fitC (Tp.iv 0 hs) = 10 := if_neg hf
          have E3 : fitI (Tp.iv 0 hs) = -1 := if_neg hf
          have EC : Tp.vC' hs = 10 := by unfold Tp.vC'; rw [if_neg (by simp [HP0.out]), if_pos hf]
          have EI : Tp.vI' hs = -1 := by unfold Tp.vI'; rw [if_neg (by simp [HP0.out]), if_pos hf]
          have ET : Tp.vT hs = [] := if_neg (by rw [EC]; decide)
          have EE := Lib.hid (And.intro EC (And.intro EI ET))
          rw [E1, E2, E3]
          clear E1 E2 E3 EC EI ET hf
          obtain ⟨dr, d0, d1⟩ := put_both (v := .slice none 0 0) F5 R5 (by omega) 10 (-1)
          obtain ⟨a0, a1, a2, a3, a4⟩ := F5
          go_wp2_with fail
          refine bodyPost_ret (v := .tuple #[.agg #[.slice none 0 0], .agg #[.int .i64 10, .int .i64 (-1)]]) (by simp [results, Try.results15, go_sem, d0, d1, dr]) rfl ⟨none, 0, by rw [EE.out.1, EE.out.2.1, EE.out.2.2]; rfl, by rw [EE.out.2.2]; exact ⟨fun _ => rfl, fun h => (h rfl).elim⟩, fun _ => rfl, by rw [EE.out.2.2]; exact Nat.zero_le _, ?_⟩
          exact ((uE.out.setCell (by dsimp only; omega) _).setCell (by dsimp only; omega) _).setCell (by dsimp only; omega) _
  · have E : Hid (Tp.vC' hs = Tp.pC hs ∧ Tp.vI' hs = Tp.pI hs ∧ Tp.vT hs = []) := Lib.hid (by
      have e : Tp.vC' hs = Tp.pC hs := if_pos hp0
      exact ⟨e, if_pos hp0, if_neg (by rw [e]; exact hp0)⟩)
    have g1 : (Tp.pC hs != 0) = true := by simpa using hp0
    clear hp0
    obtain ⟨dr, d0, d1⟩ := put_both (v := .slice none 0 0) (F1.out.alloc (.cells #[.int .i64 (Tp.pC hs), .int .i64 (Tp.pI hs)] 27 (0, 0))) (R1.out.alloc (.cells #[.int .i64 (Tp.pC hs), .int .i64 (Tp.pI hs)] 27 (0, 0))) (by omega) (Tp.pC hs) (Tp.pI hs)
    have rc := cell_up R1.out.c (.cells #[.int .i64 (Tp.pC hs), .int .i64 (Tp.pI hs)] 27 (0, 0))
    have rf := frozen_up R1.out.c R1.out.f (.cells #[.int .i64 (Tp.pC hs), .int .i64 (Tp.pI hs)] 27 (0, 0))
    obtain ⟨a0, a1, a2, a3, a4⟩ := F1.out
    go_wp2_with fail
    go_region
    go_wp2_with fail
    refine bodyPost_ret (v := .tuple #[.agg #[.slice none 0 0], .agg #[.int .i64 (Tp.pC hs), .int .i64 (Tp.pI hs)]]) (by simp [results, Try.results15, go_sem, d0, d1, dr]) rfl ⟨none, 0, by rw [E.out.1, E.out.2.1, E.out.2.2]; rfl, by rw [E.out.2.2]; exact ⟨fun _ => rfl, fun h => (h rfl).elim⟩, fun _ => rfl, by rw [E.out.2.2]; exact Nat.zero_le _, ?_⟩
    (repeat' (first | (with_reducible exact Below.refl _ _) | (with_reducible assumption) | (with_reducible refine below_drewN ?_ _) | (with_reducible refine Below.setCell ?_ ?_ _) | (with_reducible refine Below.alloc ?_ ?_ _) | (with_reducible refine Below.drew ?_) | go_size))
end Go.Proofs.Ytidjdoamnbilaaa
