/-
  The reference's Commute, walked.
-/
import Derived.Test.YtolpbeemeignaaaCrA
namespace Go.Proofs.Ytolpbeemeignaaa
open Go.RowKit
set_option maxRecDepth 4000

theorem only_below {C pg A : Nat} {w w' : World} (h : Only C pg w w') (h1 : A ≤ pg) (h2 : A ≤ C) : Below A w w' :=
  ⟨h.os, h.tape, h.output, h.size, fun k hk => h.block k (by omega) (by omega)⟩
theorem only_up {C pg : Nat} {w w' w'' : World} (h : Only C pg w w') (hC : C ≤ w'.heap.size) (hb : Below w'.heap.size w' w'') : Only C pg w w'' :=
  ⟨hb.os.trans h.os, hb.tape.trans h.tape, hb.output.trans h.output, Nat.le_trans h.size hb.size, fun k hk hn => by rw [hb.block k (by omega), h.block k hk hn]⟩
theorem only_trans {C pg : Nat} {w w' w'' : World} (h : Only C pg w w') (k : Only C pg w' w'') : Only C pg w w'' :=
  ⟨k.os.trans h.os, k.tape.trans h.tape, k.output.trans h.output, Nat.le_trans h.size k.size, fun j hj hn => by rw [k.block j hj hn, h.block j hj hn]⟩
theorem rw_putO {C pg g cc m : Nat} {v : Value} {w w3 : World} {rs : List (Int × Sv × Sv)} {r : Int × Sv × Sv} (og : One w pg v) (own : OwnE hkE C w v rs) (hp : pg < C) (hC : C ≤ w.heap.size) (hm : m = rs.length)
    (own2 : OwnE hkE C w3 (.slice (some ⟨g, 0, none⟩) (rs.length + 1) cc) (rs ++ [r])) (G2 : w.grownBy w3 v.ownBlock) :
    One (w3.setCell ⟨pg, 0, none⟩ (.slice (some ⟨g, 0, none⟩) (m + 1) cc)) pg (.slice (some ⟨g, 0, none⟩) (m + 1) cc) ∧ OwnE hkE C (w3.setCell ⟨pg, 0, none⟩ (.slice (some ⟨g, 0, none⟩) (m + 1) cc)) (.slice (some ⟨g, 0, none⟩) (m + 1) cc) (rs ++ [r]) ∧
      Only C pg w (w3.setCell ⟨pg, 0, none⟩ (.slice (some ⟨g, 0, none⟩) (m + 1) cc)) := by
  obtain ⟨k1, k2, k3⟩ := rw_put og own hp hC hm own2 G2
  refine ⟨k1, k2, ⟨k3.os, k3.tape, k3.output, k3.size, fun k hk hn => ?_⟩⟩
  rw [Below.heap_setCell _ _ _ _ (by exact hn), G2.block k (by omega) (fun e => by have := own_block own _ e.symm; omega)]
theorem ownE_same {base : Nat} {w w' : World} {v : Value} {l : List (Int × Sv × Sv)} (h : OwnE hkE base w v l) (hb : ∀ b, v.ownBlock = some b → w'.heap[b]? = w.heap[b]?) : OwnE hkE base w' v l := by
  obtain ⟨h1, h2 | ⟨g, cap, cur, e, hg, hc, r⟩⟩ := h
  · exact ⟨h1, .inl h2⟩
  · exact ⟨h1, .inr ⟨g, cap, cur, e, hg, by rw [hb g (by rw [e]; rfl)]; exact hc, r⟩⟩
theorem iv_chg {hs : List Tp.H} (i : Nat) (hi : i < hs.length) (h : i < (Tp.cg (Tp.iv 0 hs)).length) {L E : Int} (hL : L = hs[i].at' + Tp.gr (hs.take i)) (hE : E = hs[i].at' + Tp.gr (hs.take i) + (hs[i].new.length : Int)) :
    (Tp.cg (Tp.iv 0 hs))[i] = ⟨L, E, (hs[i].old.length : Int) - (hs[i].new.length : Int)⟩ := by
  have h' : i < (Tp.iv 0 hs).length := by rw [Tp.iv_len]; exact hi
  have e : (Tp.cg (Tp.iv 0 hs))[i] = Tp.chg ((Tp.iv 0 hs)[i]'h') := by simp [Tp.cg]
  rw [e, Tp.iv_get hs 0 i hi h']
  subst hL hE
  simp only [Tp.chg, Tp.en, Tp.Cg.mk.injEq, and_true]
  omega
theorem rw_ptc' {ms : List Tp.H} {w W : World} {base m cap : Nat} {p : Option Addr} {rs : List (Int × Sv × Sv)} (h2 : OwnE hkE base W (.slice p m cap) rs) (h3 : Rw ms w rs ms.length) (_hm : m = ms.length) (hb : Below w.heap.size w W) : Ptc W p ms := by
  obtain ⟨p', c', e', hp', -, -⟩ := rw_ptc h2 h3 hb
  injection e' with e1 _ _
  rw [e1]; exact hp'
theorem refEnd2_any (z : Int) (o1 n1 : Option Addr) (o2 o3 n2 n3 : Nat) (w : World) (h1 : -100000000 ≤ z) (h2 : z ≤ 100000000) (h3 : o2 ≤ 1000000) :
    Calls Try.prog 39 #[.agg #[.int .i64 z, .slice o1 o2 o3, .slice n1 n2 n3]] w (BPost (.int .i64 (z + (o2 : Int))) w) := by
  have wz : IntKind.i64.wrap (z + (o2 : Int)) = z + (o2 : Int) := IntWalk.i64_in _ (by omega)
  go_enter Try.func39, Try.ntmps39
  go_wp2_with fail
  go_ret
  exact ⟨rfl, up_alloc (Below.refl _ _) _⟩
/-- the reference's return -/
def ExRef (hs ks : List Tp.H) (w : World) (e : Ending) (w' : World) : Prop :=
  ∃ p cap q cap', e = .returned (.tuple #[.agg #[.slice p (Tp.eA1 hs ks).length cap], .agg #[.slice q (Tp.eA2 hs ks).length cap'], .bool (Tp.eB hs ks), .agg #[.int .i64 (Tp.eC hs ks), .int .i64 (Tp.eI hs ks)]]) ∧
    Ptc w' p (Tp.eA1 hs ks) ∧ Ptc w' q (Tp.eA2 hs ks) ∧ Below w.heap.size w w'
set_option maxRecDepth 100000 in
set_option maxHeartbeats 32000000 in
theorem refCommute_any (p q : Option Addr) (hs ks : List Tp.H) (n cap m cap' : Nat) (w : World) (hn : n = hs.length) (hm : m = ks.length) (hp : Ptc w p hs) (hq : Ptc w q ks) (hl : hs.length ≤ 2513169434845) (hl' : ks.length ≤ 2513169434845) :
    Calls Try.prog 14 #[.agg #[.slice p n cap], .agg #[.slice q m cap']] w (ExRef hs ks w) := by
  subst hn hm
  have HP := Lib.hid hp
  have HQ := Lib.hid hq
  clear hp hq
  have hfd := field0
  have up0 : Below w.heap.size w (((((w.alloc (.cells #[.slice p hs.length cap] 24 (0, 0))).alloc (.cells #[.slice q ks.length cap'] 24 (0, 0))).alloc (.cells #[.slice none 0 0] 24 (0, 0))).alloc (.cells #[.slice none 0 0] 24 (0, 0))).alloc (.cells #[.int .i64 0, .int .i64 0] 26 (0, 0))) := up_alloc (up_alloc (up_alloc (up_alloc (up_alloc (Below.refl _ _) _) _) _) _) _
  have O0 := Lib.hid (((((One.new w (.slice p hs.length cap) 24 (w.heap.size) (by simp)).alloc (.cells #[.slice q ks.length cap'] 24 (0, 0))).alloc (.cells #[.slice none 0 0] 24 (0, 0))).alloc (.cells #[.slice none 0 0] 24 (0, 0))).alloc (.cells #[.int .i64 0, .int .i64 0] 26 (0, 0)))
  have S0 := Lib.hid ((((One.new (w.alloc (.cells #[.slice p hs.length cap] 24 (0, 0))) (.slice q ks.length cap') 24 (w.heap.size + 1) (by simp)).alloc (.cells #[.slice none 0 0] 24 (0, 0))).alloc (.cells #[.slice none 0 0] 24 (0, 0))).alloc (.cells #[.int .i64 0, .int .i64 0] 26 (0, 0)))
  have R0 := Lib.hid (((One.new ((w.alloc (.cells #[.slice p hs.length cap] 24 (0, 0))).alloc (.cells #[.slice q ks.length cap'] 24 (0, 0))) (.slice none 0 0) 24 (w.heap.size + 1 + 1) (by simp)).alloc (.cells #[.slice none 0 0] 24 (0, 0))).alloc (.cells #[.int .i64 0, .int .i64 0] 26 (0, 0)))
  have T0 := Lib.hid ((One.new (((w.alloc (.cells #[.slice p hs.length cap] 24 (0, 0))).alloc (.cells #[.slice q ks.length cap'] 24 (0, 0))).alloc (.cells #[.slice none 0 0] 24 (0, 0))) (.slice none 0 0) 24 (w.heap.size + 1 + 1 + 1) (by simp)).alloc (.cells #[.int .i64 0, .int .i64 0] 26 (0, 0)))
  have F0 : Hid (Flt (((((w.alloc (.cells #[.slice p hs.length cap] 24 (0, 0))).alloc (.cells #[.slice q ks.length cap'] 24 (0, 0))).alloc (.cells #[.slice none 0 0] 24 (0, 0))).alloc (.cells #[.slice none 0 0] 24 (0, 0))).alloc (.cells #[.int .i64 0, .int .i64 0] 26 (0, 0))) (w.heap.size + 1 + 1 + 1 + 1) 0 0) := by
    have := Flt.new ((((w.alloc (.cells #[.slice p hs.length cap] 24 (0, 0))).alloc (.cells #[.slice q ks.length cap'] 24 (0, 0))).alloc (.cells #[.slice none 0 0] 24 (0, 0))).alloc (.cells #[.slice none 0 0] 24 (0, 0))) 0 0 26
    rw [World.size_alloc, World.size_alloc, World.size_alloc, World.size_alloc] at this
    exact this
  go_enter Try.func14, Try.ntmps14
  go_wp2_with fail
  obtain ⟨w0, hw0⟩ : ∃ w0, w0 = ((((w.alloc (.cells #[.slice p hs.length cap] 24 (0, 0))).alloc (.cells #[.slice q ks.length cap'] 24 (0, 0))).alloc (.cells #[.slice none 0 0] 24 (0, 0))).alloc (.cells #[.slice none 0 0] 24 (0, 0))).alloc (.cells #[.int .i64 0, .int .i64 0] 26 (0, 0)) := ⟨_, rfl⟩
  rw [← hw0] at up0 O0 S0 R0 T0 F0 ⊢
  clear hw0
  have oc := O0.out.c
  have sc := S0.out.c
  go_wp2_with fail
  refine (refPair_any p q hs ks _ cap _ cap' _ rfl rfl (HP.out.mono up0) (HQ.out.mono up0) hl hl').mono ?_
  rintro e w1 ⟨rfl, hb1⟩
  have u1 := up_call up0 hb1
  have O1 := Lib.hid (O0.out.up hb1)
  have S1 := Lib.hid (S0.out.up hb1)
  have R1 := Lib.hid (R0.out.up hb1)
  have T1 := Lib.hid (T0.out.up hb1)
  have F1 := Lib.hid (F0.out.up hb1)
  have hf1 := F1.out.lt
  clear up0 hb1 O0 S0 R0 T0 F0 oc sc
  by_cases hp0 : Tp.prC hs ks = 0
  · have HP0 := Lib.hid hp0
    have VV := Lib.hid (Tp.prC_zero.1 hp0)
    rw [hp0]
    clear hp0
    have bb := up_alloc (up_alloc (up_alloc (Below.refl w1.heap.size w1) (.cells #[.int .i64 0, .int .i64 (Tp.prI hs ks)] 26 (0, 0))) (.cells #[.slice none 0 0] 24 (0, 0))) (.cells #[.slice none 0 0] 24 (0, 0))
    have O2 := Lib.hid (O1.out.up bb)
    have S2 := Lib.hid (S1.out.up bb)
    have R2 := Lib.hid (R1.out.up bb)
    have T2 := Lib.hid (T1.out.up bb)
    have F2 := Lib.hid (F1.out.up bb)
    have G2 := Lib.hid ((One.new (w1.alloc (.cells #[.int .i64 0, .int .i64 (Tp.prI hs ks)] 26 (0, 0))) (.slice none 0 0) 24 (w1.heap.size + 1) (by simp)).alloc (.cells #[.slice none 0 0] 24 (0, 0)))
    have I2 := Lib.hid (One.new ((w1.alloc (.cells #[.int .i64 0, .int .i64 (Tp.prI hs ks)] 26 (0, 0))).alloc (.cells #[.slice none 0 0] 24 (0, 0))) (.slice none 0 0) 24 (w1.heap.size + 1 + 1) (by simp))
    have u2 := Lib.hid (up_call u1 bb)
    have z2 : (((w1.alloc (.cells #[.int .i64 0, .int .i64 (Tp.prI hs ks)] 26 (0, 0))).alloc (.cells #[.slice none 0 0] 24 (0, 0))).alloc (.cells #[.slice none 0 0] 24 (0, 0))).heap.size = w1.heap.size + 1 + 1 + 1 := by simp
    clear O1 S1 R1 T1 F1 u1 bb
    go_wp2_with fail
    obtain ⟨w2, hw2⟩ : ∃ w2, w2 = ((w1.alloc (.cells #[.int .i64 0, .int .i64 (Tp.prI hs ks)] 26 (0, 0))).alloc (.cells #[.slice none 0 0] 24 (0, 0))).alloc (.cells #[.slice none 0 0] 24 (0, 0)) := ⟨_, rfl⟩
    rw [← hw2] at O2 S2 R2 T2 F2 G2 I2 u2 z2 ⊢
    clear hw2
    obtain ⟨ph, hph⟩ : ∃ g, g = w1.heap.size + 1 + 1 := ⟨_, rfl⟩
    rw [← hph] at I2 z2 ⊢
    obtain ⟨pg, hpg⟩ : ∃ pg, pg = w1.heap.size + 1 := ⟨_, rfl⟩
    rw [← hpg] at G2 ⊢
    have hpw : w.heap.size + 1 + 1 + 1 + 1 < pg := by omega
    have hgh : pg < ph ∧ ph < pg + 2 := by omega
    clear hpg hf1 hph
    have VI := Lib.hid (bc_iv (bd_of VV.out.1))
    have HCL : Hid ((Tp.cg (Tp.iv 0 hs)).length = hs.length) := Lib.hid (by unfold Tp.cg; rw [List.length_map, Tp.iv_len])
    go_loopw [11] (fun jj wr => ∃ (j : Nat) (v : Value) (rs : List (Int × Sv × Sv)), j ≤ ks.length ∧ jj = .int .i64 j ∧ Hid (One wr pg v) ∧ Hid (OwnE hkE (ph + 1) wr v rs) ∧ Hid (Rw (Tp.bh ks (Tp.cg (Tp.iv 0 hs))) w rs j) ∧ Hid (Only (ph + 1) pg w2 wr) ∧ Hid (∀ i (hi : i < ks.length), i < j → (Tp.cg (Tp.iv 0 hs)).any (Tp.t1 ks[i]) = false) ∧ ph < wr.heap.size) (fun jj _ => ks.length - (intOf jj).toNat)
    case atStart => exact ⟨0, _, [], Nat.zero_le _, rfl, G2, Lib.hid (ownE_nil _ _ _), Lib.hid (Rw.start _ _), Lib.hid (Only.refl _ _ _), Lib.hid (fun i _ h => by omega), by omega⟩
    case round =>
      obtain ⟨j, v, rs, hj, rfl, hO, hW, hR, hB, hN, hpr⟩ := hrel
      have hBl := Lib.hid (only_below (A := pg) hB.out (Nat.le_refl _) (by omega))
      have uw := Lib.hid (u2.out.trans (hBl.out.mono (show w.heap.size ≤ pg by omega)))
      have O3 := Lib.hid (O2.out.mono hBl.out (by omega))
      have S3 := Lib.hid (S2.out.mono hBl.out (by omega))
      have R3 := Lib.hid (R2.out.mono hBl.out (by omega))
      have T3 := Lib.hid (T2.out.mono hBl.out (by omega))
      have F3 := Lib.hid (F2.out.mono hBl.out (by omega))
      have sc := S3.out.c
      have b0 : (0 : Int) ≤ (j : Int) := by omega
      by_cases hlt : j < ks.length
      · have g1 : decide (j < ks.length) = true := by simpa using hlt
        have b1 : (j : Int) < (ks.length : Int) := by omega
        obtain ⟨b, off, rfl, hbb0, ⟨o1, o2, o3⟩, ⟨n1, n2, n3⟩, c0, c1, c2, r1, r2⟩ := HQ.out.cell hlt
        have l1 := r1.len
        have l2 := r2.len
        dsimp only at l1 l2
        subst l1 l2
        simp only [sv] at c1 c2
        have RD := Lib.hid (And.intro r1 r2)
        have hbw : b < wr.heap.size := Nat.lt_of_lt_of_le hbb0 uw.out.size
        have HBW := Lib.hid hbw
        have C0 := Lib.hid ((uw.out.cell (p := ⟨b, off + j * 3, none⟩) hbb0).trans c0)
        have C1 := Lib.hid ((uw.out.cell (p := ⟨b, off + j * 3 + 1, none⟩) hbb0).trans c1)
        have C2 := Lib.hid ((uw.out.cell (p := ⟨b, off + j * 3 + 2, none⟩) hbb0).trans c2)
        clear c0 c1 c2 r1 r2
        have BV := Lib.hid (vp_bounds VV.out.2 _ (List.getElem_mem hlt))
        have HLT := Lib.hid hlt
        have hbl : j < (Tp.bh ks (Tp.cg (Tp.iv 0 hs))).length := by rw [bh_len]; exact hlt
        have HBL := Lib.hid hbl
        have EM := Lib.hid (bh_get ks (Tp.cg (Tp.iv 0 hs)) j hlt HBL.out)
        have TC := Lib.hid (fun i hi => tch_at (cs := Tp.cg (Tp.iv 0 hs)) j hlt i hi)
        have GBD := Lib.hid (fun i => gb_bd VI.out (ks[j]'hlt).at' i)
        obtain ⟨hj', hx⟩ : ∃ x, x = ks[j]'hlt := ⟨_, rfl⟩
        have NN : Hid (∀ i (hi : i < ks.length), i < j + 1 → (Tp.cg (Tp.iv 0 hs)).any (Tp.t1 hj') = false → (Tp.cg (Tp.iv 0 hs)).any (Tp.t1 ks[i]) = false) := Lib.hid (fun i hi h1 h2 => by
          by_cases e : i < j
          · exact hN.out i hi e
          · have : i = j := by omega
            subst this; rw [← hx]; exact h2)
        rw [← hx] at C0 C1 C2 RD BV EM TC GBD
        clear hx hbl
        obtain ⟨z, ol, nl⟩ := hj'
        dsimp only at C0 C1 C2 RD BV EM GBD
        obtain ⟨wo, rfl⟩ : ∃ wo, wo = wr := ⟨_, rfl⟩
        go_wp2_with fail
        go_loopw [12, 13] (fun nn ii wq => ∃ (i : Nat) (g : Int), i ≤ hs.length ∧ ii = .int .i64 i ∧ nn = .int .i64 g ∧ Hid (Gin ⟨z, ol, nl⟩ (Tp.cg (Tp.iv 0 hs)) i g) ∧ Hid (Below wo.heap.size wo wq)) (fun _ ii _ => hs.length - (intOf ii).toNat)
        case atStart => exact ⟨0, 0, Nat.zero_le _, rfl, rfl, Lib.hid (Gin.start _ _), Lib.hid (Below.refl _ _)⟩
        case round =>
          obtain ⟨i, g, hi, rfl, rfl, hG, hBq⟩ := hrel
          have c0' : (0 : Int) ≤ (i : Int) := by omega
          have hzq := hBq.out.size
          have O4 := Lib.hid (O3.out.up hBq.out)
          have S4 := Lib.hid (S3.out.up hBq.out)
          have oc4 := O4.out.c
          have D0 := Lib.hid ((hBq.out.cell (p := ⟨b, off + j * 3, none⟩) HBW.out).trans C0.out)
          have D1 := Lib.hid ((hBq.out.cell (p := ⟨b, off + j * 3 + 1, none⟩) HBW.out).trans C1.out)
          have D2 := Lib.hid ((hBq.out.cell (p := ⟨b, off + j * 3 + 2, none⟩) HBW.out).trans C2.out)
          have uq := Lib.hid (up_call uw.out hBq.out)
          by_cases hik : i < hs.length
          · have g2 : decide (i < hs.length) = true := by simpa using hik
            have b2 : (i : Int) < (hs.length : Int) := by omega
            have BK := Lib.hid (vp_bounds VV.out.1 _ (List.getElem_mem hik))
            have hic : i < (Tp.cg (Tp.iv 0 hs)).length := by rw [HCL.out]; exact hik
            have NXT := Lib.hid (fun h => hG.out.next hic h)
            have TCI := Lib.hid (fun h => TC.out i hic h)
            have hgb := GBD.out i
            rw [← hG.out.n'] at hgb
            have hgr := gr_bd (bd_of VV.out.1) i
            have NW := Lib.hid (fun X (hX : Ptc X p hs) => refNews_any p hs _ cap i X rfl hik hX VV.out.1)
            obtain ⟨L, hL⟩ : ∃ L, L = (hs[i]'hik).at' + Tp.gr (hs.take i) := ⟨_, rfl⟩
            obtain ⟨E, hE⟩ : ∃ E, E = L + ((hs[i]'hik).new.length : Int) := ⟨_, rfl⟩
            rw [← hL, ← hE] at NW
            have ek := iv_chg (L := L) (E := E) i hik hic hL (by rw [hE, hL])
            rw [ek] at NXT TCI
            obtain ⟨bq, oq, rfl, hbq0, ⟨p1, p2, p3⟩, ⟨m1, m2, m3⟩, e0, e1, e2, s1, s2⟩ := HP.out.cell hik
            replace e0 := (uq.out.cell (p := ⟨bq, oq + i * 3, none⟩) hbq0).trans e0
            replace e1 := (uq.out.cell (p := ⟨bq, oq + i * 3 + 1, none⟩) hbq0).trans e1
            replace e2 := (uq.out.cell (p := ⟨bq, oq + i * 3 + 2, none⟩) hbq0).trans e2
            have l1 := s1.len
            have l2 := s2.len
            dsimp only at l1 l2
            subst l1 l2
            simp only [sv] at e1 e2
            have HIK := Lib.hid hik
            have hLb : -1000000 ≤ L ∧ L ≤ 2000000 := by have := BK.out; omega
            have hEb : -1000000 ≤ E ∧ E ≤ 3000000 := by have := BK.out; omega
            have eU := Lib.hid e0
            obtain ⟨ki, hx⟩ : ∃ x, x = hs[i]'hik := ⟨_, rfl⟩
            rw [← hx] at e0 e1 e2 BK NXT TCI
            clear hx s1 s2 ek hL hE eU hgr
            obtain ⟨y, xl, yl⟩ := ki
            dsimp only at e0 e1 e2 BK NXT TCI
            obtain ⟨v0, v1, v2, v3⟩ := BV.out
            obtain ⟨k0, k1, k2, k3⟩ := BK.out
            have T1 := Lib.hid (show Tp.t1 ⟨z, ol, nl⟩ ⟨L, E, (xl.length : Int) - (yl.length : Int)⟩ = (decide (z ≤ E) && decide (L ≤ z + (ol.length : Int))) from rfl)
            have NX2 : Hid (Tp.t1 ⟨z, ol, nl⟩ ⟨L, E, (xl.length : Int) - (yl.length : Int)⟩ = false → ∀ d : Int, d = (if E < z then (xl.length : Int) - yl.length else 0) → Gin ⟨z, ol, nl⟩ (Tp.cg (Tp.iv 0 hs)) (i + 1) (g + d)) := Lib.hid (fun h d hd => by subst hd; exact NXT.out h)
            clear NXT
            have hgm : -1000000 ≤ g ∧ g ≤ 1000000 := hgb
            clear hgb
            have NW1 := Lib.hid (NW.out _ (HP.out.mono uq.out))
            have E0 := Lib.hid e0
            have E1 := Lib.hid e1
            have E2 := Lib.hid e2
            have HQ0 := Lib.hid (cell_block_lt e0)
            clear NW e0 e1 e2
            go_wp2_with fail
            refine NW1.out.mono ?_
            rintro e w7 ⟨rfl, hb7⟩
            have B7 := Lib.hid (up_call hBq.out hb7)
            have S7 := Lib.hid (S4.out.up hb7)
            have O7 := Lib.hid (O4.out.up hb7)
            have d0 := (hb7.cell (p := ⟨b, off + j * 3, none⟩) (cell_block_lt D0.out)).trans D0.out
            have d1 := (hb7.cell (p := ⟨b, off + j * 3 + 1, none⟩) (cell_block_lt D1.out)).trans D1.out
            have d2 := (hb7.cell (p := ⟨b, off + j * 3 + 2, none⟩) (cell_block_lt D2.out)).trans D2.out
            have e0 := (hb7.cell (p := ⟨bq, oq + i * 3, none⟩) HQ0.out).trans E0.out
            have e1 := (hb7.cell (p := ⟨bq, oq + i * 3 + 1, none⟩) HQ0.out).trans E1.out
            have e2 := (hb7.cell (p := ⟨bq, oq + i * 3 + 2, none⟩) HQ0.out).trans E2.out
            have sc7 := S7.out.c
            have oc7 := O7.out.c
            have D0y := Lib.hid d0
            have E0y := Lib.hid (And.intro e0 (And.intro e1 e2))
            clear hb7 D0 D1 D2 E0 E1 E2 O4 S4 oc4
            by_cases hA : z ≤ E
            · have gA : decide (z ≤ E) = true := by simpa using hA
              by_cases hBt : L ≤ z + (ol.length : Int)
              · have gB : decide (L ≤ z + (ol.length : Int)) = true := by simpa using hBt
                have ht := TCI.out (by rw [T1.out, gA, gB]; rfl)
                have EE := Lib.hid (Tp.e_touch HP0.out ht)
                clear ht hA hBt
                go_wp2_with fail
                refine (refEnd_any z o1 n1 ol.length o3 nl.length n3 _ (by omega) (by omega) (by omega)).mono ?_
                rintro e w8 ⟨rfl, hb8⟩
                have B8 := B7.out.trans (hb8.mono B7.out.size)
                have R8 := R3.out.up B8
                have T8 := T3.out.up B8
                have F8 := F3.out.up B8
                have u8 := up_call uw.out B8
                clear hb8 d0 d1 d2 e0 e1 e2 sc7 oc7 B8
                obtain ⟨d4, d5, d0, d1⟩ := put_three (v := .slice none 0 0) (v' := .slice none 0 0) F8 R8 T8 (by omega) (by omega) (by omega) 0 0
                have rc := R8.c
                have rf := R8.f
                have tc := T8.c
                have tf := T8.f
                obtain ⟨a0, a1, a2, a3, a4⟩ := F8
                go_wp2_with fail
                refine bodyPost_ret (v := .tuple #[.agg #[.slice none 0 0], .agg #[.slice none 0 0], .bool false, .agg #[.int .i64 0, .int .i64 0]]) (by simp [results, Try.results14, go_sem, d4, d5, d0, d1]) rfl ⟨none, 0, none, 0, by rw [EE.out.1, EE.out.2.1, EE.out.2.2.1, EE.out.2.2.2.1, EE.out.2.2.2.2]; rfl, by rw [EE.out.2.2.2.1]; exact ptc_none _, by rw [EE.out.2.2.2.2]; exact ptc_none _, ?_⟩
                (repeat' (first | (with_reducible exact Below.refl _ _) | (with_reducible assumption) | (with_reducible refine below_drewN ?_ _) | (with_reducible refine Below.setCell ?_ ?_ _) | (with_reducible refine Below.alloc ?_ ?_ _) | (with_reducible refine Below.drew ?_) | go_size))
              · have gB : decide (L ≤ z + (ol.length : Int)) = false := by simpa using hBt
                have gC : decide (E < z) = false := by simp; omega
                have N3 := Lib.hid (NX2.out (by rw [T1.out, gA, gB]; rfl) 0 (by rw [if_neg (by omega)]))
                clear hA hBt
                go_wp2_with fail
                refine (refEnd_any z o1 n1 ol.length o3 nl.length n3 _ (by omega) (by omega) (by omega)).mono ?_
                rintro e w8 ⟨rfl, hb8⟩
                have B8 := Lib.hid (B7.out.trans (hb8.mono B7.out.size))
                have sc8 := (S7.out.up hb8).c
                have d08 := (hb8.cell (p := ⟨b, off + j * 3, none⟩) (cell_block_lt D0y.out)).trans D0y.out
                clear hb8 d0 d1 d2 e0 e1 e2 sc7 oc7
                go_wp2_with fail
                go_roundw
                case rel => exact ⟨i + 1, g, HIK.out, by go_num, rfl, Lib.hid (by have := N3.out; rwa [Int.add_zero] at this), B8⟩
                case measure => first | (simp [intOf]; done) | (simp [intOf]; omega)
            · have gA : decide (z ≤ E) = false := by simpa using hA
              have gC : decide (E < z) = true := by simp; omega
              have N3 := Lib.hid (NX2.out (by rw [T1.out, gA]; rfl) ((xl.length : Int) - (yl.length : Int)) (by rw [if_pos (by omega)]))
              have wg : IntKind.i64.wrap (g - ((yl.length : Int) - (xl.length : Int))) = g - ((yl.length : Int) - (xl.length : Int)) := IntWalk.i64_in _ (by omega)
              clear hA
              go_wp2_with fail
              refine (refGrowth_any y p1 m1 xl.length p3 yl.length m3 _ (by omega) (by omega)).mono ?_
              rintro e w8 ⟨rfl, hb8⟩
              have B8 := Lib.hid (B7.out.trans (hb8.mono B7.out.size))
              clear hb8 d0 d1 d2 e0 e1 e2 sc7 oc7
              go_wp2_with fail
              go_roundw
              case rel => exact ⟨i + 1, g - ((yl.length : Int) - (xl.length : Int)), HIK.out, by go_num, rfl, Lib.hid (by have := N3.out; rwa [show g + ((xl.length : Int) - (yl.length : Int)) = g - ((yl.length : Int) - (xl.length : Int)) by omega] at this), B8⟩
              case measure => first | (simp [intOf]; done) | (simp [intOf]; omega)
          · have g2 : decide (i < hs.length) = false := by simpa using hik
            obtain rfl : i = hs.length := by omega
            have hgv := hG.out.n'
            have hgn := hG.out.no
            rw [← HCL.out, List.take_length] at hgv hgn
            have hgb := GBD.out (Tp.cg (Tp.iv 0 hs)).length
            rw [List.take_length, ← hgv] at hgb
            obtain ⟨v0, v1, v2, v3⟩ := BV.out
            have OQ := Lib.hid (hO.out.up hBq.out)
            have WQ := Lib.hid (hW.out.up hBq.out)
            have gc := OQ.out.c
            have gf := OQ.out.f
            have hrl := hR.out.len
            have hl130 := VV.out.2.len
            have PUSH := Lib.hid (hR.out.push HBL.out (a := z + g) (by rw [EM.out, hgv]) (by rw [EM.out]; exact RD.out.1) (by rw [EM.out]; exact RD.out.2))
            have NNQ := Lib.hid (fun i hi h1 => NN.out i hi h1 hgn)
            have hvl : v.ownBlock ≠ some pg := fun e => by have := own_block hW.out _ e; omega
            have HVL := Lib.hid hvl
            have MV := Lib.hid (fun X => refMoved_any z g o1 n1 ol.length o3 nl.length n3 X (by omega) (by omega) (by omega) (by omega))
            have d0 := D0.out
            have d1 := D1.out
            have d2 := D2.out
            have sc4 := S4.out.c
            clear hG hgn hgv
            go_wp2_with fail
            go_region_law (first
              | (refine step_appE hkE _ (by rfl) (.tmp 86) (.tmp 94) (by rfl) (ph + 1) v rs ((z + g), (o1, ol.length, o3), (n1, nl.length, n3)) ⟨wA.heap.size, 0, none⟩ 1 (by rfl) (WA.out.alloc _) (by rfl) (hunk_one _ _ (o1, ol.length, o3) (n1, nl.length, n3) _) (by simp [hkE]; omega) (by first | omega | (simp; omega)) (by simp; omega) (wA.heap.size + 1) (by simp) ?_
                 intro gg cc w3 own2 gr2 hat2 hlt2
                 have G3 : World.grownBy wA w3 v.ownBlock := by refine grow_trans ?_ gr2; exact ⟨rfl, rfl, rfl, by simp, fun k hk _ => Below.heap_alloc _ _ _ hk⟩
                 have s3 := G3.cell gcA (Ne.symm HVL.out)
                 have s4 : w3.frozen? ⟨pg, 0, none⟩ = false := by rw [G3.frozen_far ⟨pg, 0, none⟩ (by dsimp only; omega) (Ne.symm HVL.out), gfA])
              | (go_simp
                 go_at_call 41
                 refine (MV.out _).mono ?_
                 rintro e wA ⟨rfl, hbA⟩
                 have BA : Hid (Below wr.heap.size wr wA) := Lib.hid ((Below.refl _ _).drew.trans hbA)
                 have OA := Lib.hid (OQ.out.up BA.out)
                 have WA := Lib.hid (WQ.out.up BA.out)
                 have gcA := OA.out.c
                 have gfA := OA.out.f
                 have hzA := BA.out.size
                 have qA := cell_up gcA (.cells #[.int .i64 (z + g), .slice o1 ol.length o3, .slice n1 nl.length n3] 58 (0, 0))
                 clear hbA))
            all_goals
              have PT := Lib.hid (rw_putO (m := j) OA.out WA.out (by omega) (by omega) hrl.symm own2 G3)
              clear own2 gr2 hat2 G3 s3 s4
              go_wp2_with fail
              go_roundw
              case rel => exact ⟨j + 1, _, _, HLT.out, by go_num, Lib.hid PT.out.1, Lib.hid PT.out.2.1, PUSH, Lib.hid (only_trans (only_up hB.out (by omega) (up_call hBq.out BA.out)) PT.out.2.2), NNQ, by have := PT.out.2.2.size; omega⟩
              case measure => first | (simp [intOf]; done) | (simp [intOf]; omega)
      · have g1 : decide (j < ks.length) = false := by simpa using hlt
        obtain rfl : j = ks.length := by omega
        have HT := Lib.hid (tch_none (fun i hi => hN.out i hi hi))
        have I3 := Lib.hid (I2.out.same (hB.out.block ph (by omega) (by omega)))
        have BF := Lib.hid (bd_xa VV.out.1 VV.out.2)
        obtain ⟨pf, cf, rfl, -, -, -⟩ := rw_ptc hW.out (by rw [bh_len]; exact hR.out) uw.out
        obtain ⟨ms, hms⟩ : ∃ ms, ms = Tp.bh ks (Tp.cg (Tp.iv 0 hs)) := ⟨_, rfl⟩
        have HRW : Hid (Rw ms w rs ms.length) := Lib.hid (by rw [hms, bh_len, ← hms]; rw [hms]; exact hR.out)
        rw [← hms] at hW hO BF
        have HMS := Lib.hid (show ms = Tp.xa hs ks from hms)
        have gc := hO.out.c
        have HF := Lib.hid hO.out
        have WF := Lib.hid hW.out
        obtain ⟨w5, rfl⟩ : ∃ x, x = wr := ⟨_, rfl⟩
        obtain ⟨C2, hC2⟩ : ∃ c, c = w5.heap.size := ⟨_, rfl⟩
        have hphC : ph < C2 := by omega
        have HCM : Hid ((Tp.cg ms).length = ms.length) := Lib.hid (by unfold Tp.cg; rw [List.length_map])
        have hml := BF.out.len
        clear hms hR hW hO hlt hN hB hBl
        go_wp2_with fail
        go_loopw [16] (fun ii wy => ∃ (i : Nat) (v : Value) (rt : List (Int × Sv × Sv)), i ≤ hs.length ∧ ii = .int .i64 i ∧ Hid (One wy ph v) ∧ Hid (OwnE hkE C2 wy v rt) ∧ Hid (Rw (Tp.bh hs (Tp.cg ms)) w rt i) ∧ Hid (Only C2 ph w5 wy) ∧ C2 ≤ wy.heap.size) (fun ii _ => hs.length - (intOf ii).toNat)
        case atStart => exact ⟨0, _, [], Nat.zero_le _, rfl, I3, Lib.hid (ownE_nil _ _ _), Lib.hid (Rw.start _ _), Lib.hid (Only.refl _ _ _), by omega⟩
        case round =>
          obtain ⟨i, v, rt, hi, rfl, hO, hW, hR, hB, hpr⟩ := hrel
          have hBl := Lib.hid (only_below (A := pg) hB.out (by omega) (by omega))
          have ux := Lib.hid (uw.out.trans (hBl.out.mono (show w.heap.size ≤ pg by omega)))
          have O4 := Lib.hid (O3.out.mono hBl.out (by omega))
          have R4 := Lib.hid (R3.out.mono hBl.out (by omega))
          have T4 := Lib.hid (T3.out.mono hBl.out (by omega))
          have F4 := Lib.hid (F3.out.mono hBl.out (by omega))
          have HF4 := Lib.hid (HF.out.same (hB.out.block pg (by omega) (by omega)))
          have WF4 := Lib.hid (ownE_same WF.out (fun b hb => hB.out.block b (by have := own_block WF.out b hb; omega) (by have := own_block WF.out b hb; omega)))
          have PF4 := Lib.hid (rw_ptc' WF4.out HRW.out rfl ux.out)
          have oc := O4.out.c
          have gc4 := HF4.out.c
          have b0 : (0 : Int) ≤ (i : Int) := by omega
          by_cases hlt : i < hs.length
          · have g1 : decide (i < hs.length) = true := by simpa using hlt
            have b1 : (i : Int) < (hs.length : Int) := by omega
            obtain ⟨b, off, rfl, hbb0, ⟨o1, o2, o3⟩, ⟨n1, n2, n3⟩, c0, c1, c2, r1, r2⟩ := HP.out.cell hlt
            have l1 := r1.len
            have l2 := r2.len
            dsimp only at l1 l2
            subst l1 l2
            simp only [sv] at c1 c2
            have RD := Lib.hid (And.intro r1 r2)
            have C0 := Lib.hid ((ux.out.cell (p := ⟨b, off + i * 3, none⟩) hbb0).trans c0)
            have C1 := Lib.hid ((ux.out.cell (p := ⟨b, off + i * 3 + 1, none⟩) hbb0).trans c1)
            have C2' := Lib.hid ((ux.out.cell (p := ⟨b, off + i * 3 + 2, none⟩) hbb0).trans c2)
            clear c0 c1 c2 r1 r2
            have BV := Lib.hid (vp_bounds VV.out.1 _ (List.getElem_mem hlt))
            have HLT := Lib.hid hlt
            have HBL : Hid (i < (Tp.bh hs (Tp.cg ms)).length) := Lib.hid (by rw [bh_len]; exact hlt)
            have EM := Lib.hid (bh_get hs (Tp.cg ms) i hlt HBL.out)
            have GBD := Lib.hid (fun j => gb_bd (bc_cg BF.out) (hs[i]'hlt).at' j)
            have GNX := Lib.hid (fun j hj => gb_next (hs[i]'hlt).at' (Tp.cg ms) j hj)
            obtain ⟨hj', hx⟩ : ∃ x, x = hs[i]'hlt := ⟨_, rfl⟩
            rw [← hx] at C0 C1 C2' RD BV EM GBD GNX
            clear hx
            obtain ⟨z, ol, nl⟩ := hj'
            dsimp only at C0 C1 C2' RD BV EM GBD GNX
            obtain ⟨wo, rfl⟩ : ∃ wo, wo = wr := ⟨_, rfl⟩
            go_wp2_with fail
            go_loopw [17, 18] (fun nn jj wq => ∃ (j : Nat) (g : Int), j ≤ ms.length ∧ jj = .int .i64 j ∧ nn = .int .i64 g ∧ Hid (g = Tp.gb z ((Tp.cg ms).take j)) ∧ Hid (Below wo.heap.size wo wq)) (fun _ jj _ => ms.length - (intOf jj).toNat)
            case atStart => exact ⟨0, 0, Nat.zero_le _, rfl, rfl, Lib.hid rfl, Lib.hid (Below.refl _ _)⟩
            case round =>
              obtain ⟨j, g, hj, rfl, rfl, hG, hBq⟩ := hrel
              have c0' : (0 : Int) ≤ (j : Int) := by omega
              have hzq := hBq.out.size
              have O5 := Lib.hid (O4.out.up hBq.out)
              have HF5 := Lib.hid (HF4.out.up hBq.out)
              have oc5 := O5.out.c
              have gc5 := HF5.out.c
              have D0 := Lib.hid ((hBq.out.cell (p := ⟨b, off + i * 3, none⟩) (cell_block_lt C0.out)).trans C0.out)
              have D1 := Lib.hid ((hBq.out.cell (p := ⟨b, off + i * 3 + 1, none⟩) (cell_block_lt C1.out)).trans C1.out)
              have D2 := Lib.hid ((hBq.out.cell (p := ⟨b, off + i * 3 + 2, none⟩) (cell_block_lt C2'.out)).trans C2'.out)
              have PF5 := Lib.hid (PF4.out.mono hBq.out)
              by_cases hik : j < ms.length
              · have g2 : decide (j < ms.length) = true := by simpa using hik
                have b2 : (j : Int) < (ms.length : Int) := by omega
                have BK := Lib.hid (BF.out.each _ (List.getElem_mem hik))
                have hic : j < (Tp.cg ms).length := by rw [HCM.out]; exact hik
                have ek : (Tp.cg ms)[j]'hic = Tp.chg (ms[j]'hik) := by simp [Tp.cg]
                have NXT := Lib.hid (GNX.out j hic)
                have hgb := GBD.out j
                rw [← hG.out] at hgb
                obtain ⟨bq, oq, rfl, hbq0, ⟨p1, p2, p3⟩, ⟨m1, m2, m3⟩, e0, e1, e2, s1, s2⟩ := PF5.out.cell hik
                have l1 := s1.len
                have l2 := s2.len
                dsimp only at l1 l2
                subst l1 l2
                simp only [sv] at e1 e2
                have HIK := Lib.hid hik
                obtain ⟨ki, hx⟩ : ∃ x, x = ms[j]'hik := ⟨_, rfl⟩
                rw [← hx] at e0 e1 e2 BK ek
                rw [ek] at NXT
                clear hx s1 s2 ek
                obtain ⟨y, xl, yl⟩ := ki
                dsimp only at e0 e1 e2 BK NXT
                obtain ⟨v0, v1, v2, v3⟩ := BV.out
                obtain ⟨k0, k1, k2, k3⟩ := BK.out
                have N2 : Hid (Tp.gb z ((Tp.cg ms).take (j + 1)) = g + (if y + (xl.length : Int) < z then (yl.length : Int) - (xl.length : Int) else 0)) := Lib.hid (by rw [NXT.out, ← hG.out]; rfl)
                clear NXT
                have hgm : -1000000 ≤ g ∧ g ≤ 1000000 := hgb
                clear hgb
                have E0 := Lib.hid e0
                have E1 := Lib.hid e1
                have E2 := Lib.hid e2
                go_wp2_with fail
                have CE := fun n => over_call (refEnd2_any y p1 m1 xl.length p3 yl.length m3 (over wr n) (by omega) (by omega) (by omega))
                have r1 := over_cell (cell_block_lt e0) e0
                have r2 := over_cell (cell_block_lt e1) e1
                have r3 := over_cell (cell_block_lt e2) e2
                have r4 := over_cell (cell_block_lt oc5) oc5
                have r5 := over_cell (cell_block_lt gc5) gc5
                have r6 := over_cell (cell_block_lt D0.out) D0.out
                clear e0 e1 e2
                by_cases hA : y + (xl.length : Int) < z
                · have gA : decide (y + (xl.length : Int) < z) = true := by simpa using hA
                  have N3 := Lib.hid (N2.out.trans (by rw [if_pos hA] : _ = g + ((yl.length : Int) - (xl.length : Int))))
                  have wg : IntKind.i64.wrap (g + ((yl.length : Int) - (xl.length : Int))) = g + ((yl.length : Int) - (xl.length : Int)) := IntWalk.i64_in _ (by omega)
                  clear hA
                  refine over_lit (by kernel_rfl) (by kernel_rfl) ?_
                  repeat (go_big_quiet_step ((go_at_call 39; exact CE _)))
                  refine wpQuiet_nil ?_
                  rintro _ ⟨nq, rfl⟩
                  have bx := over_below wr nq
                  have gcY := (bx.cell (p := ⟨pg, 0, none⟩) (cell_block_lt gc5)).trans gc5
                  have e0 := (bx.cell (p := ⟨bq, oq + j * 3, none⟩) (cell_block_lt E0.out)).trans E0.out
                  have e1 := (bx.cell (p := ⟨bq, oq + j * 3 + 1, none⟩) (cell_block_lt E1.out)).trans E1.out
                  have e2 := (bx.cell (p := ⟨bq, oq + j * 3 + 2, none⟩) (cell_block_lt E2.out)).trans E2.out
                  have BY := Lib.hid (hBq.out.trans (bx.mono hzq))
                  clear r1 r2 r3 r4 r5 r6 CE bx oc5 gc5
                  generalize over wr nq = Y at gcY e0 e1 e2 BY ⊢
                  go_wp2_with fail
                  refine (refGrowth_any y p1 m1 xl.length p3 yl.length m3 _ (by omega) (by omega)).mono ?_
                  rintro e w8 ⟨rfl, hb8⟩
                  have B8 := Lib.hid (up_call BY.out hb8)
                  clear hb8 e0 e1 e2 gcY
                  go_wp2_with fail
                  go_roundw
                  case rel => exact ⟨j + 1, g + ((yl.length : Int) - (xl.length : Int)), HIK.out, by go_num, rfl, Lib.hid N3.out.symm, B8⟩
                  case measure => first | (simp [intOf]; done) | (simp [intOf]; omega)
                · have gA : decide (y + (xl.length : Int) < z) = false := by simpa using hA
                  have N3 := Lib.hid (N2.out.trans (by rw [if_neg hA, Int.add_zero] : _ = g))
                  clear hA
                  refine over_lit (by kernel_rfl) (by kernel_rfl) ?_
                  repeat (go_big_quiet_step ((go_at_call 39; exact CE _)))
                  refine wpQuiet_nil ?_
                  rintro _ ⟨nq, rfl⟩
                  have bx := over_below wr nq
                  have gcY := (bx.cell (p := ⟨pg, 0, none⟩) (cell_block_lt gc5)).trans gc5
                  have e0 := (bx.cell (p := ⟨bq, oq + j * 3, none⟩) (cell_block_lt E0.out)).trans E0.out
                  have e1 := (bx.cell (p := ⟨bq, oq + j * 3 + 1, none⟩) (cell_block_lt E1.out)).trans E1.out
                  have e2 := (bx.cell (p := ⟨bq, oq + j * 3 + 2, none⟩) (cell_block_lt E2.out)).trans E2.out
                  have BY := Lib.hid (hBq.out.trans (bx.mono hzq))
                  clear r1 r2 r3 r4 r5 r6 CE bx oc5 gc5
                  generalize over wr nq = Y at gcY e0 e1 e2 BY ⊢
                  clear e0 e1 e2 gcY
                  go_wp2_with fail
                  go_roundw
                  case rel => exact ⟨j + 1, g, HIK.out, by go_num, rfl, Lib.hid N3.out.symm, BY⟩
                  case measure => first | (simp [intOf]; done) | (simp [intOf]; omega)
              · have g2 : decide (j < ms.length) = false := by simpa using hik
                obtain rfl : j = ms.length := by omega
                have hgv := hG.out
                rw [← HCM.out, List.take_length] at hgv
                have hgb := GBD.out (Tp.cg ms).length
                rw [List.take_length, ← hgv] at hgb
                obtain ⟨v0, v1, v2, v3⟩ := BV.out
                have OQ := Lib.hid (hO.out.up hBq.out)
                have WQ := Lib.hid (hW.out.up hBq.out)
                have gcp := OQ.out.c
                have gfp := OQ.out.f
                have hrl := hR.out.len
                have hl130 := VV.out.1.len
                have PUSH := Lib.hid (hR.out.push HBL.out (a := z + g) (by rw [EM.out, hgv]) (by rw [EM.out]; exact RD.out.1) (by rw [EM.out]; exact RD.out.2))
                have hvl : v.ownBlock ≠ some ph := fun e => by have := own_block hW.out _ e; omega
                have HVL := Lib.hid hvl
                have MV := Lib.hid (fun X => refMoved_any z g o1 n1 ol.length o3 nl.length n3 X (by omega) (by omega) (by omega) (by omega))
                have d0 := D0.out
                have d1 := D1.out
                have d2 := D2.out
                clear hG hgv
                go_wp2_with fail
                go_region_law (first
              | (refine step_appE hkE _ (by rfl) (.tmp 133) (.tmp 141) (by rfl) (C2) v rt ((z + g), (o1, ol.length, o3), (n1, nl.length, n3)) ⟨wA.heap.size, 0, none⟩ 1 (by rfl) (WA.out.alloc _) (by rfl) (hunk_one _ _ (o1, ol.length, o3) (n1, nl.length, n3) _) (by simp [hkE]; omega) (by first | omega | (simp; omega)) (by simp; omega) (wA.heap.size + 1) (by simp) ?_
                 intro gg cc w3 own2 gr2 hat2 hlt2
                 have G3 : World.grownBy wA w3 v.ownBlock := by refine grow_trans ?_ gr2; exact ⟨rfl, rfl, rfl, by simp, fun k hk _ => Below.heap_alloc _ _ _ hk⟩
                 have s3 := G3.cell gcA (Ne.symm HVL.out)
                 have s4 : w3.frozen? ⟨ph, 0, none⟩ = false := by rw [G3.frozen_far ⟨ph, 0, none⟩ (by dsimp only; omega) (Ne.symm HVL.out), gfA])
              | (go_simp
                 go_at_call 41
                 refine (MV.out _).mono ?_
                 rintro e wA ⟨rfl, hbA⟩
                 have BA : Hid (Below wr.heap.size wr wA) := Lib.hid ((Below.refl _ _).drew.trans hbA)
                 have OA := Lib.hid (OQ.out.up BA.out)
                 have WA := Lib.hid (WQ.out.up BA.out)
                 have gcA := OA.out.c
                 have gfA := OA.out.f
                 have hzA := BA.out.size
                 have qA := cell_up gcA (.cells #[.int .i64 (z + g), .slice o1 ol.length o3, .slice n1 nl.length n3] 58 (0, 0))
                 clear hbA))
                all_goals
                  have PT := Lib.hid (rw_putO (m := i) OA.out WA.out (by omega) (by omega) hrl.symm own2 G3)
                  clear own2 gr2 hat2 G3 s3 s4
                  go_wp2_with fail
                  go_roundw
                  case rel => exact ⟨i + 1, _, _, HLT.out, by go_num, Lib.hid PT.out.1, Lib.hid PT.out.2.1, PUSH, Lib.hid (only_trans (only_up hB.out (by omega) (up_call hBq.out BA.out)) PT.out.2.2), by have := PT.out.2.2.size; omega⟩
                  case measure => first | (simp [intOf]; done) | (simp [intOf]; omega)
          · have g1 : decide (i < hs.length) = false := by simpa using hlt
            obtain rfl : i = hs.length := by omega
            obtain ⟨ps, cs, rfl, -, -, -⟩ := rw_ptc hW.out (by rw [bh_len]; exact hR.out) ux.out
            have hxl : (Tp.bh hs (Tp.cg ms)).length ≤ 1000 := by rw [bh_len]; have := VV.out.1.len; omega
            obtain ⟨xs, hxs⟩ : ∃ xs, xs = Tp.bh hs (Tp.cg ms) := ⟨_, rfl⟩
            have HRX : Hid (Rw xs w rt xs.length) := Lib.hid (by rw [hxs, bh_len]; rw [← hxs]; rw [hxs]; exact hR.out)
            rw [← hxs] at hW hO hxl
            have HXS := Lib.hid (show xs = Tp.xb hs ks by rw [hxs, HMS.out]; rfl)
            have PS4 := Lib.hid (rw_ptc' hW.out HRX.out rfl ux.out)
            clear hxs hR hlt
            go_wp2_with fail
            refine (refPatchFault_any pf ms _ cf _ rfl PF4.out (by omega)).mono ?_
            rintro e w6 ⟨rfl, hb6⟩
            have R6 := Lib.hid (R4.out.up hb6)
            have T6 := Lib.hid (T4.out.up hb6)
            have F6 := Lib.hid (F4.out.up hb6)
            have HF6 := Lib.hid (HF4.out.up hb6)
            have I6 := Lib.hid (hO.out.up hb6)
            have WF6 := Lib.hid (WF4.out.up hb6)
            have WS6 := Lib.hid (hW.out.up hb6)
            have PS6 := Lib.hid (PS4.out.mono hb6)
            have u6 := Lib.hid (up_call ux.out hb6)
            clear hb6 gc4 oc
            by_cases hf : Tp.pC ms = 0
            · have gf : (Tp.pC ms != 0) = false := by simpa using hf
              have HFZ := Lib.hid hf
              clear hf
              have ic := I6.out.c
              go_wp2_with fail
              refine (refPatchFault_any ps xs _ cs _ rfl PS6.out (by omega)).mono ?_
              rintro e w7 ⟨rfl, hb7⟩
              have R7 := Lib.hid (R6.out.up hb7)
              have T7 := Lib.hid (T6.out.up hb7)
              have F7 := Lib.hid (F6.out.up hb7)
              have HF7 := Lib.hid (HF6.out.up hb7)
              have I7 := Lib.hid (I6.out.up hb7)
              have WF7 := Lib.hid (WF6.out.up hb7)
              have WS7 := Lib.hid (WS6.out.up hb7)
              have u7 := Lib.hid (up_call u6.out hb7)
              clear hb7 ic
              by_cases hx : Tp.pC xs = 0
              · have gx : (Tp.pC xs != 0) = false := by simpa using hx
                have EE := Lib.hid (Tp.e_good HP0.out HT.out ⟨by rw [← HMS.out]; exact HFZ.out, by rw [← HXS.out]; exact hx⟩)
                clear hx
                obtain ⟨d4, d5, d0, d1⟩ := put_three (v := .slice pf ms.length cf) (v' := .slice ps xs.length cs) F7.out R7.out T7.out (by omega) (by omega) (by omega) 0 0
                have rc := R7.out.c
                have rf := R7.out.f
                have tc := T7.out.c
                have tf := T7.out.f
                have fc := HF7.out.c
                have ic := I7.out.c
                have e1 : pg ≠ w.heap.size + 1 + 1 := by omega
                have e2 : ph ≠ w.heap.size + 1 + 1 := by omega
                have e3 : pg ≠ w.heap.size + 1 + 1 + 1 := by omega
                have e4 : ph ≠ w.heap.size + 1 + 1 + 1 := by omega
                have e5 := e1.symm
                have e6 := e2.symm
                have e7 := e3.symm
                have e8 := e4.symm
                obtain ⟨a0, a1, a2, a3, a4⟩ := F7.out
                go_wp2_with fail
                go_region
                all_goals
                  go_wp2_with fail
                  have UF : Below w.heap.size w ((((w7.setCell ⟨w.heap.size + 1 + 1, 0, none⟩ (.slice pf ms.length cf)).setCell ⟨w.heap.size + 1 + 1 + 1, 0, none⟩ (.slice ps xs.length cs)).setCell ⟨w.heap.size + 1 + 1 + 1 + 1, 0, none⟩ (.int .i64 0)).setCell ⟨w.heap.size + 1 + 1 + 1 + 1, 1, none⟩ (.int .i64 0)) :=
                    (((u7.out.setCell (by dsimp only; omega) _).setCell (by dsimp only; omega) _).setCell (by dsimp only; omega) _).setCell (by dsimp only; omega) _
                  have X1 := rw_ptc' (ownsRow_setCell_below (ownsRow_setCell_below (ownsRow_setCell_below (ownsRow_setCell_below WF7.out (a := ⟨w.heap.size + 1 + 1, 0, none⟩) (by dsimp only; omega) (.slice pf ms.length cf)) (a := ⟨w.heap.size + 1 + 1 + 1, 0, none⟩) (by dsimp only; omega) (.slice ps xs.length cs)) (a := ⟨w.heap.size + 1 + 1 + 1 + 1, 0, none⟩) (by dsimp only; omega) (.int .i64 0)) (a := ⟨w.heap.size + 1 + 1 + 1 + 1, 1, none⟩) (by dsimp only; omega) (.int .i64 0)) HRW.out rfl UF
                  have X2 := rw_ptc' (ownsRow_setCell_below (ownsRow_setCell_below (ownsRow_setCell_below (ownsRow_setCell_below WS7.out (a := ⟨w.heap.size + 1 + 1, 0, none⟩) (by dsimp only; omega) (.slice pf ms.length cf)) (a := ⟨w.heap.size + 1 + 1 + 1, 0, none⟩) (by dsimp only; omega) (.slice ps xs.length cs)) (a := ⟨w.heap.size + 1 + 1 + 1 + 1, 0, none⟩) (by dsimp only; omega) (.int .i64 0)) (a := ⟨w.heap.size + 1 + 1 + 1 + 1, 1, none⟩) (by dsimp only; omega) (.int .i64 0)) HRX.out rfl UF
                  refine bodyPost_ret (v := .tuple #[.agg #[.slice pf ms.length cf], .agg #[.slice ps xs.length cs], .bool true, .agg #[.int .i64 0, .int .i64 0]]) (by simp [results, Try.results14, go_sem, d4, d5, d0, d1]) rfl ⟨pf, cf, ps, cs, by rw [EE.out.1, EE.out.2.1, EE.out.2.2.1, EE.out.2.2.2.1, EE.out.2.2.2.2, HMS.out, HXS.out], ?_, ?_, ?_⟩
                  · rw [EE.out.2.2.2.1, ← HMS.out]
                    first | exact X1 | exact X1.mono ((Below.refl _ _).drew)
                  · rw [EE.out.2.2.2.2, ← HXS.out]
                    first | exact X2 | exact X2.mono ((Below.refl _ _).drew)
                  · first | exact UF | exact UF.drew
              · have gx : (Tp.pC xs != 0) = true := by simpa using hx
                have EE := Lib.hid (Tp.e_large HP0.out HT.out (fun h => hx (by rw [HXS.out]; exact h.2)))
                clear hx
                go_wp2_with fail
                refine (at_any _ _ _).mono ?_
                rintro e w9 ⟨rfl, hb9⟩
                have u9 := up_call u7.out hb9
                have R9 := R7.out.up hb9
                have T9 := T7.out.up hb9
                have F9 := F7.out.up hb9
                obtain ⟨d4, d5, d0, d1⟩ := put_three (v := .slice none 0 0) (v' := .slice none 0 0) F9 R9 T9 (by omega) (by omega) (by omega) 10 (-1)
                have rc := R9.c
                have rf := R9.f
                have tc := T9.c
                have tf := T9.f
                obtain ⟨a0, a1, a2, a3, a4⟩ := F9
                go_wp2_with fail
                refine bodyPost_ret (v := .tuple #[.agg #[.slice none 0 0], .agg #[.slice none 0 0], .bool false, .agg #[.int .i64 10, .int .i64 (-1)]]) (by simp [results, Try.results14, go_sem, d4, d5, d0, d1]) rfl ⟨none, 0, none, 0, by rw [EE.out.1, EE.out.2.1, EE.out.2.2.1, EE.out.2.2.2.1, EE.out.2.2.2.2]; rfl, by rw [EE.out.2.2.2.1]; exact ptc_none _, by rw [EE.out.2.2.2.2]; exact ptc_none _, ?_⟩
                (repeat' (first | (with_reducible exact Below.refl _ _) | (with_reducible assumption) | (with_reducible refine below_drewN ?_ _) | (with_reducible refine Below.setCell ?_ ?_ _) | (with_reducible refine Below.alloc ?_ ?_ _) | (with_reducible refine Below.drew ?_) | go_size))
            · have gf : (Tp.pC ms != 0) = true := by simpa using hf
              have EE := Lib.hid (Tp.e_large HP0.out HT.out (fun h => hf (by rw [HMS.out]; exact h.1)))
              clear hf
              go_wp2_with fail
              refine (at_any _ _ _).mono ?_
              rintro e w9 ⟨rfl, hb9⟩
              have u9 := up_call u6.out hb9
              have R9 := R6.out.up hb9
              have T9 := T6.out.up hb9
              have F9 := F6.out.up hb9
              obtain ⟨d4, d5, d0, d1⟩ := put_three (v := .slice none 0 0) (v' := .slice none 0 0) F9 R9 T9 (by omega) (by omega) (by omega) 10 (-1)
              have rc := R9.c
              have rf := R9.f
              have tc := T9.c
              have tf := T9.f
              obtain ⟨a0, a1, a2, a3, a4⟩ := F9
              go_wp2_with fail
              refine bodyPost_ret (v := .tuple #[.agg #[.slice none 0 0], .agg #[.slice none 0 0], .bool false, .agg #[.int .i64 10, .int .i64 (-1)]]) (by simp [results, Try.results14, go_sem, d4, d5, d0, d1]) rfl ⟨none, 0, none, 0, by rw [EE.out.1, EE.out.2.1, EE.out.2.2.1, EE.out.2.2.2.1, EE.out.2.2.2.2]; rfl, by rw [EE.out.2.2.2.1]; exact ptc_none _, by rw [EE.out.2.2.2.2]; exact ptc_none _, ?_⟩
              (repeat' (first | (with_reducible exact Below.refl _ _) | (with_reducible assumption) | (with_reducible refine below_drewN ?_ _) | (with_reducible refine Below.setCell ?_ ?_ _) | (with_reducible refine Below.alloc ?_ ?_ _) | (with_reducible refine Below.drew ?_) | go_size))
  · have EE := Lib.hid (Tp.e_fault hp0)
    have hne : (Tp.prC hs ks != 0) = true := by simpa using hp0
    clear hp0
    obtain ⟨d4, d5, d0, d1⟩ := put_three (v := .slice none 0 0) (v' := .slice none 0 0) (F1.out.alloc (.cells #[.int .i64 (Tp.prC hs ks), .int .i64 (Tp.prI hs ks)] 26 (0, 0))) (R1.out.alloc (.cells #[.int .i64 (Tp.prC hs ks), .int .i64 (Tp.prI hs ks)] 26 (0, 0))) (T1.out.alloc (.cells #[.int .i64 (Tp.prC hs ks), .int .i64 (Tp.prI hs ks)] 26 (0, 0))) (by omega) (by omega) (by omega) (Tp.prC hs ks) (Tp.prI hs ks)
    have rc := cell_up R1.out.c (.cells #[.int .i64 (Tp.prC hs ks), .int .i64 (Tp.prI hs ks)] 26 (0, 0))
    have rf := frozen_up R1.out.c R1.out.f (.cells #[.int .i64 (Tp.prC hs ks), .int .i64 (Tp.prI hs ks)] 26 (0, 0))
    have tc := cell_up T1.out.c (.cells #[.int .i64 (Tp.prC hs ks), .int .i64 (Tp.prI hs ks)] 26 (0, 0))
    have tf := frozen_up T1.out.c T1.out.f (.cells #[.int .i64 (Tp.prC hs ks), .int .i64 (Tp.prI hs ks)] 26 (0, 0))
    obtain ⟨a0, a1, a2, a3, a4⟩ := F1.out
    go_wp2_with fail
    go_region
    all_goals
      go_wp2_with fail
      refine bodyPost_ret (v := .tuple #[.agg #[.slice none 0 0], .agg #[.slice none 0 0], .bool false, .agg #[.int .i64 (Tp.prC hs ks), .int .i64 (Tp.prI hs ks)]]) (by simp [results, Try.results14, go_sem, d4, d5, d0, d1]) rfl ⟨none, 0, none, 0, by rw [EE.out.1, EE.out.2.1, EE.out.2.2.1, EE.out.2.2.2.1, EE.out.2.2.2.2]; rfl, by rw [EE.out.2.2.2.1]; exact ptc_none _, by rw [EE.out.2.2.2.2]; exact ptc_none _, ?_⟩
      (repeat' (first | (with_reducible exact Below.refl _ _) | (with_reducible assumption) | (with_reducible refine below_drewN ?_ _) | (with_reducible refine Below.setCell ?_ ?_ _) | (with_reducible refine Below.alloc ?_ ?_ _) | (with_reducible refine Below.drew ?_) | go_size))
end Go.Proofs.Ytolpbeemeignaaa
