
/-
  Package multivalue: Merge, walked.
-/
import Derived.Test.YtidncnhhjfdifaaMvJ
namespace Go.Proofs.Ytidncnhhjfdifaa
open Go.RowKit
set_option maxRecDepth 4000

namespace Mv
theorem mCI_bad1 {a b : List V} (h : ¬ vC a = 0) : mC a b = vC a ∧ mI a b = vI a ∧ mL a b = [] := by
  have e : mCI a b = (vC a, vI a) := by unfold mCI; rw [if_pos h]
  have e1 : mC a b = vC a := by unfold mC; rw [e]
  exact ⟨e1, by unfold mI; rw [e], by unfold mL; rw [e1, if_neg h]⟩
theorem mCI_bad2 {a b : List V} (h : vC a = 0) (h2 : ¬ vC b = 0) : mC a b = vC b ∧ mI a b = -2 ∧ mL a b = [] := by
  have e : mCI a b = (vC b, -2) := by unfold mCI; rw [if_neg (by simpa using h), if_pos h2]
  have e1 : mC a b = vC b := by unfold mC; rw [e]
  exact ⟨e1, by unfold mI; rw [e], by unfold mL; rw [e1, if_neg h2]⟩
theorem mCI_ok {a b : List V} (h : vC a = 0) (h2 : vC b = 0) : mCI a b = if 0 ≤ ix (clash a) b then (19, ix (clash a) b) else if 16 < (raw a b).length then (10, -1) else (0, 0) := by
  unfold mCI ix
  rw [if_neg (by simpa using h), if_neg (by simpa using h2)]
  cases b.findIdx? (clash a) with
  | none => rfl
  | some k =>
    dsimp only
    rw [if_pos (by omega)]
theorem mCI_conf {a b : List V} (h : vC a = 0) (h2 : vC b = 0) (h3 : 0 ≤ ix (clash a) b) : mC a b = 19 ∧ mI a b = ix (clash a) b ∧ mL a b = [] := by
  have e := mCI_ok h h2
  rw [if_pos h3] at e
  have e1 : mC a b = 19 := by unfold mC; rw [e]
  exact ⟨e1, by unfold mI; rw [e], by unfold mL; rw [e1, if_neg (by decide)]⟩
theorem mCI_long {a b : List V} (h : vC a = 0) (h2 : vC b = 0) (h3 : ¬ 0 ≤ ix (clash a) b) (h4 : 16 < (raw a b).length) : mC a b = 10 ∧ mI a b = -1 ∧ mL a b = [] := by
  have e := mCI_ok h h2
  rw [if_neg h3, if_pos h4] at e
  have e1 : mC a b = 10 := by unfold mC; rw [e]
  exact ⟨e1, by unfold mI; rw [e], by unfold mL; rw [e1, if_neg (by decide)]⟩
theorem mCI_good {a b : List V} (h : vC a = 0) (h2 : vC b = 0) (h3 : ¬ 0 ≤ ix (clash a) b) (h4 : ¬ 16 < (raw a b).length) : mC a b = 0 ∧ mI a b = 0 ∧ mL a b = srt (raw a b) := by
  have e := mCI_ok h h2
  rw [if_neg h3, if_neg h4] at e
  have e1 : mC a b = 0 := by unfold mC; rw [e]
  exact ⟨e1, by unfold mI; rw [e], by unfold mL; rw [e1, if_pos rfl]⟩
theorem rem_le (l o : List V) (f : List Int → List Int → Bool) : (rem l o f).length ≤ l.length := List.length_filter_le _ _
theorem rem_mem {l o : List V} {f : List Int → List Int → Bool} {v : V} (h : v ∈ rem l o f) : v ∈ l := (List.mem_filter.1 h).1
end Mv
theorem Kept.set {B g k : Nat} {w : World} {v : Value} {l : List Mv.R} (h : Kept B w v l) (hg : g < B) (u : Value) : Kept B (w.setCell ⟨g, k, none⟩ u) v l :=
  ⟨ownsRow_setCell_below h.own (by exact hg) _, fun r hr => ownsRow_setCell_below (h.vec r hr) (by exact hg) _⟩
set_option maxRecDepth 100000 in
set_option maxHeartbeats 1000000 in
theorem mvMerge_any (p q : Option Addr) (ra rb : List Mv.R) (ca cb : Nat) (w : World) (hp : Vs w p ra) (hq : Vs w q rb) (hla : ra.length ≤ ca) (hlb : rb.length ≤ cb) (hza : ra.length ≤ 4611686018427387904) (hzb : rb.length ≤ 4611686018427387904) :
    Calls Try.prog 16 #[.slice p ra.length ca, .slice q rb.length cb] w (MPost (Mv.mL (Mv.vs ra) (Mv.vs rb)) (Mv.mC (Mv.vs ra) (Mv.vs rb)) (Mv.mI (Mv.vs ra) (Mv.vs rb)) w) := by
  have up0 : Below w.heap.size w (w.alloc (.cells #[.int .i64 0, .int .i64 0] 24 (0, 0))) := up_alloc (Below.refl _ _) _
  have F0 := Lib.hid (Flt.new w 0 0 24)
  have z0 : (w.alloc (.cells #[.int .i64 0, .int .i64 0] 24 (0, 0))).heap.size = w.heap.size + 1 := by simp
  have HP := Lib.hid (hp.mono up0)
  have HQ := Lib.hid (hq.mono up0)
  have VA := Lib.hid (mvValidate_any p ra ca _ HP.out hla hza)
  have VB2 := Lib.hid (fun (W : World) (hW : Below (w.alloc (.cells #[.int .i64 0, .int .i64 0] 24 (0, 0))).heap.size (w.alloc (.cells #[.int .i64 0, .int .i64 0] 24 (0, 0))) W) => mvValidate_any q rb cb W (HQ.out.mono hW) hlb hzb)
  have Z0 := Lib.hid z0
  clear hp hq hla hlb hza hzb z0
  by_cases h1 : Mv.vC (Mv.vs ra) = 0
  case neg =>
    obtain ⟨e1, e2, e3⟩ := Mv.mCI_bad1 (b := Mv.vs rb) h1
    rw [e1, e2, e3]
    clear e1 e2 e3 VB2
    generalize Mv.vC (Mv.vs ra) = c at h1 VA ⊢
    generalize Mv.vI (Mv.vs ra) = i at VA ⊢
    have g0 : ¬ c = 0 := h1
    clear h1
    go_enter Try.func16, Try.ntmps16
    go_wp2_with (go_at_call 18; refine VA.out.mono ?_; rintro e w2 ⟨rfl, hb2⟩)
    rename_i K1 hK1 K2 hK2
    have F2 := (F0.out.up hb2).up (up_alloc (Below.refl _ _) (.cells #[.int .i64 c, .int .i64 i] 24 (0, 0)))
    have G2 := Flt.new w2 c i 24
    have B2 := up_alloc (up_call up0 hb2) (.cells #[.int .i64 c, .int .i64 i] 24 (0, 0))
    generalize w2.alloc (.cells #[.int .i64 c, .int .i64 i] 24 (0, 0)) = W4 at F2 G2 B2 ⊢
    have F4 := F2.set2 c i
    obtain ⟨k0, k1, f0, f1, _⟩ := F2
    obtain ⟨m0, m1, -, -, -⟩ := G2
    have d0 := F4.c0
    have d1 := F4.c1
    go_region
    refine hK2 _ _ ?_
    go_wp2_with fail
    refine bodyPost_ret (v := .tuple #[.slice none 0 0, .agg #[.int .i64 c, .int .i64 i]]) (by simp [results, Try.results16, go_sem, d0, d1]) rfl (MPost.bad ?_)
    exact ((B2.setCell (p := ⟨w.heap.size, 0, none⟩) (by simp) _).setCell (p := ⟨w.heap.size, 1, none⟩) (by simp) _).drew
  case pos =>
  have hvi := Mv.vI_zero h1
  obtain ⟨hla16, ha6⟩ := val_six h1
  rw [h1, hvi] at VA
  by_cases h2 : Mv.vC (Mv.vs rb) = 0
  case neg =>
    obtain ⟨e1, e2, e3⟩ := Mv.mCI_bad2 h1 h2
    rw [e1, e2, e3]
    clear e1 e2 e3
    generalize Mv.vC (Mv.vs rb) = c at h2 VB2 ⊢
    generalize Mv.vI (Mv.vs rb) = i at VB2 ⊢
    have g0 : ¬ c = 0 := h2
    clear h2 h1 hvi hla16 ha6
    go_enter Try.func16, Try.ntmps16
    go_wp2_with fail
    refine VA.out.mono ?_
    rintro e w2 ⟨rfl, hb2⟩
    go_wp2_with fail
    have U2 := Lib.hid (up_alloc hb2 (.cells #[.int .i64 0, .int .i64 0] 24 (0, 0)))
    have VX := Lib.hid (VB2.out _ U2.out)
    clear hb2
    generalize w2.alloc (.cells #[.int .i64 0, .int .i64 0] 24 (0, 0)) = W2 at U2 VX ⊢
    refine VX.out.mono ?_
    rintro e w3 ⟨rfl, hb3⟩
    have F3 := Lib.hid (((F0.out.up U2.out).up hb3).up (up_alloc (Below.refl _ _) (.cells #[.int .i64 c, .int .i64 i] 24 (0, 0))))
    have G3 := Lib.hid (Flt.new w3 c i 24)
    have B3 := Lib.hid (up_alloc (up_call (up_call up0 U2.out) hb3) (.cells #[.int .i64 c, .int .i64 i] 24 (0, 0)))
    clear hb3
    go_wp2_with fail
    rename_i K1 hK1 K2 hK2
    generalize w3.alloc (.cells #[.int .i64 c, .int .i64 i] 24 (0, 0)) = W4 at F3 G3 B3 ⊢
    have F4 := F3.out.set2 c (-2)
    obtain ⟨k0, k1, f0, f1, _⟩ := F3.out
    obtain ⟨m0, m1, -, -, -⟩ := G3.out
    have d0 := F4.c0
    have d1 := F4.c1
    go_region
    refine hK2 _ _ ?_
    go_wp2_with fail
    refine bodyPost_ret (v := .tuple #[.slice none 0 0, .agg #[.int .i64 c, .int .i64 (-2)]]) (by simp [results, Try.results16, go_sem, d0, d1]) rfl (MPost.bad ?_)
    exact ((B3.out.setCell (p := ⟨w.heap.size, 0, none⟩) (by simp) _).setCell (p := ⟨w.heap.size, 1, none⟩) (by simp) _).drew
  case pos =>
  have hvi2 := Mv.vI_zero h2
  obtain ⟨hlb16, hb6⟩ := val_six h2
  rw [h2, hvi2] at VB2
  have HA := Lib.hid h1
  have HB := Lib.hid h2
  clear h1 h2 hvi hvi2
  have A6 := Lib.hid ha6
  have B6 := Lib.hid hb6
  clear ha6 hb6
  go_enter Try.func16, Try.ntmps16
  go_wp2_with fail
  refine VA.out.mono ?_
  rintro e w2 ⟨rfl, hb2⟩
  go_wp2_with fail
  have U2 := Lib.hid (up_alloc hb2 (.cells #[.int .i64 0, .int .i64 0] 24 (0, 0)))
  have VX := Lib.hid (VB2.out _ U2.out)
  clear hb2
  generalize w2.alloc (.cells #[.int .i64 0, .int .i64 0] 24 (0, 0)) = W2 at U2 VX ⊢
  refine VX.out.mono ?_
  rintro e w3 ⟨rfl, hb3⟩
  have U3 := Lib.hid (up_alloc (up_call U2.out hb3) (.cells #[.int .i64 0, .int .i64 0] 24 (0, 0)))
  have FC := Lib.hid (firstConflict_any p q ra rb ca cb _ (HP.out.mono U3.out) (HQ.out.mono U3.out) (by omega) (by omega) A6.out B6.out)
  clear hb3 VX U2 VA VB2
  go_wp2_with fail
  generalize w3.alloc (.cells #[.int .i64 0, .int .i64 0] 24 (0, 0)) = W3 at U3 FC ⊢
  refine FC.out.mono ?_
  rintro e w4 ⟨rfl, hb4⟩
  have U4 := Lib.hid (up_call U3.out hb4)
  clear hb4 FC U3
  by_cases h3 : 0 ≤ ix (Mv.clash (Mv.vs ra)) (Mv.vs rb)
  · have EE := Lib.hid (Mv.mCI_conf HA.out HB.out h3)
    generalize ix (Mv.clash (Mv.vs ra)) (Mv.vs rb) = x at h3 EE ⊢
    have g3 : decide (0 ≤ x) = true := decide_eq_true h3
    obtain ⟨k0, k1, f0, f1, _⟩ := F0.out.up U4.out
    have F4 := (F0.out.up U4.out).set2 19 x
    have d0 := F4.c0
    have d1 := F4.c1
    clear h3
    go_wp2_with fail
    refine bodyPost_ret (v := .tuple #[.slice none 0 0, .agg #[.int .i64 19, .int .i64 x]]) (by simp [results, Try.results16, go_sem, d0, d1]) rfl ?_
    rw [EE.out.1, EE.out.2.1, EE.out.2.2]
    refine MPost.bad ?_
    exact ((up_call up0 U4.out).setCell (p := ⟨w.heap.size, 0, none⟩) (by simp) _).setCell (p := ⟨w.heap.size, 1, none⟩) (by simp) _
  · have E19 := Lib.hid h3
    have g3 : decide (0 ≤ ix (Mv.clash (Mv.vs ra)) (Mv.vs rb)) = false := decide_eq_false h3
    have R1 := Lib.hid (remaining_any beats_sup p q ra rb ca cb w4 (HP.out.mono U4.out) (HQ.out.mono U4.out) (by omega) (by omega) A6.out B6.out)
    clear h3
    generalize ix (Mv.clash (Mv.vs ra)) (Mv.vs rb) = x at g3 ⊢
    go_wp2_with fail
    refine R1.out.mono ?_
    rintro e w5 ⟨v1, ks1, rfl, hK1, hV1, hb5⟩
    have U5 := Lib.hid (up_call U4.out hb5)
    have R2 := Lib.hid (remaining_any beats_cov q p rb ra cb ca w5 (HQ.out.mono U5.out) (HP.out.mono U5.out) (by omega) (by omega) B6.out A6.out)
    have K5 := Lib.hid hK1
    have V5 := Lib.hid hV1
    clear hK1 hV1 hb5 R1
    go_wp2_with fail
    refine R2.out.mono ?_
    rintro e w6 ⟨v2, ks2, rfl, hK2, hV2, hb6⟩
    have U6 := Lib.hid (up_call U5.out hb6)
    have S0 : Hid ((w.alloc (.cells #[.int .i64 0, .int .i64 0] 24 (0, 0))).heap.size ≤ w4.heap.size + 1) := Lib.hid (Nat.le_succ_of_le U4.out.size)
    have S1 : Hid ((w.alloc (.cells #[.int .i64 0, .int .i64 0] 24 (0, 0))).heap.size ≤ w5.heap.size + 1) := Lib.hid (Nat.le_succ_of_le U5.out.size)
    have K6 := Lib.hid (K5.out.up hb6)
    have K6b := Lib.hid hK2
    have V6 := Lib.hid hV2
    obtain ⟨q1, c1, rfl, hs1, hn1, -⟩ := K6.out.vs
    obtain ⟨q2, c2, rfl, hs2, hn2, -⟩ := K6b.out.vs
    have l1 : ks1.length ≤ 16 := by
      have := Mv.rem_le (Mv.vs ra) (Mv.vs rb) Mv.sup
      rw [← V5.out, Mv.vs_len, Mv.vs_len] at this
      omega
    have l2 : ks2.length ≤ 16 := by
      have := Mv.rem_le (Mv.vs rb) (Mv.vs ra) Mv.cov
      rw [← V6.out, Mv.vs_len, Mv.vs_len] at this
      omega
    have hraw : Mv.vs (ks1 ++ ks2) = Mv.raw (Mv.vs ra) (Mv.vs rb) := by
      unfold Mv.raw
      rw [← V5.out, ← V6.out]
      unfold Mv.vs
      rw [List.map_append]
    have HRAW := Lib.hid hraw
    have UA := up_alloc (Below.refl w6.heap.size w6) (.cells #[.slice q1 ks1.length c1, .slice q2 ks2.length c2] 22 (0, 0))
    have x0 : (w6.alloc (.cells #[.slice q1 ks1.length c1, .slice q2 ks2.length c2] 22 (0, 0))).cell? ⟨w6.heap.size, 0, none⟩ = some (.slice q1 ks1.length c1) := by rw [World.cell?_alloc_mark]; rfl
    have x1 : (w6.alloc (.cells #[.slice q1 ks1.length c1, .slice q2 ks2.length c2] 22 (0, 0))).cell? ⟨w6.heap.size, 1, none⟩ = some (.slice q2 ks2.length c2) := by rw [World.cell?_alloc_mark]; rfl
    have CC := Lib.hid (vconcat_any q1 q2 c1 c2 w6.heap.size ks1 ks2 _ x0 x1 (hs1.row.mono UA) (hs2.row.mono UA) hn1 hn2 (by omega) (by omega))
    have UA6 := Lib.hid UA
    clear hK2 hV2 hb6 R2 hs1 hs2 hn1 hn2 x0 x1 UA hraw K5
    go_wp2_with fail
    refine CC.out.mono ?_
    rintro e w7 ⟨v3, rfl, own7, hb7⟩
    have U67 := UA6.out.trans (hb7.mono UA6.out.size)
    have U7 := Lib.hid (up_call U6.out U67)
    have K7 : Hid (Kept (w.alloc (.cells #[.int .i64 0, .int .i64 0] 24 (0, 0))).heap.size w7 v3 (ks1 ++ ks2)) := Lib.hid ⟨ownE_leG own7 (Nat.le_trans U6.out.size UA6.out.size), fun r hr => by
      rcases List.mem_append.1 hr with hr | hr
      · exact ownE_leG (ownE_upG (K6.out.vec r hr) U67) S0.out
      · exact ownE_leG (ownE_upG (K6b.out.vec r hr) U67) S1.out⟩
    obtain ⟨q3, c3, rfl, -, -, -⟩ := K7.out.vs
    clear own7 hb7 U67 CC K6 K6b UA6
    have hlr : (Mv.raw (Mv.vs ra) (Mv.vs rb)).length = (ks1 ++ ks2).length := by rw [← HRAW.out, Mv.vs_len]
    have HLR := Lib.hid hlr
    have V100 : Hid (∀ r ∈ ks1 ++ ks2, r.vec.length ≤ 100) := Lib.hid (fun r hr => by
      have hm : r.v ∈ Mv.raw (Mv.vs ra) (Mv.vs rb) := by rw [← HRAW.out]; exact List.mem_map_of_mem hr
      unfold Mv.raw at hm
      have h6 : r.v.vec.length = 6 := by
        rcases List.mem_append.1 hm with hm | hm
        · obtain ⟨r', hr', e⟩ := List.mem_map.1 (Mv.rem_mem hm)
          rw [← e]; exact A6.out r' hr'
        · obtain ⟨r', hr', e⟩ := List.mem_map.1 (Mv.rem_mem hm)
          rw [← e]; exact B6.out r' hr'
      rw [show r.vec = r.v.vec from rfl, h6]; decide)
    have hl12 : (ks1 ++ ks2).length ≤ 32 := by rw [List.length_append]; omega
    generalize ks1 ++ ks2 = ks at hlr HLR V100 HRAW K7 hl12 ⊢
    by_cases h4 : 16 < ks.length
    · have EE := Lib.hid (Mv.mCI_long HA.out HB.out (Int.not_le.2 E19.out) (by rw [hlr]; exact h4))
      have g4 : decide ((16 : Int) < (ks.length : Int)) = true := decide_eq_true (by omega)
      obtain ⟨k0, k1, f0, f1, _⟩ := F0.out.up U7.out
      have F4 := (F0.out.up U7.out).set2 10 (-1)
      have d0 := F4.c0
      have d1 := F4.c1
      clear h4 hlr l1 l2 hl12
      go_wp2_with fail
      refine bodyPost_ret (v := .tuple #[.slice none 0 0, .agg #[.int .i64 10, .int .i64 (-1)]]) (by simp [results, Try.results16, go_sem, d0, d1]) rfl ?_
      rw [EE.out.1, EE.out.2.1, EE.out.2.2]
      refine MPost.bad ?_
      exact ((up_call up0 U7.out).setCell (p := ⟨w.heap.size, 0, none⟩) (by simp) _).setCell (p := ⟨w.heap.size, 1, none⟩) (by simp) _
    · have EE := Lib.hid (Mv.mCI_good HA.out HB.out (Int.not_le.2 E19.out) (by rw [hlr]; exact h4))
      have g4 : decide ((16 : Int) < (ks.length : Int)) = false := decide_eq_false (by omega)
      have SV := Lib.hid (sortV_any _ _ ks w7 K7.out (by omega) V100.out U7.out.size)
      clear h4 hlr l1 l2 hl12
      go_wp2_with fail
      refine SV.out.mono ?_
      rintro e w8 ⟨rfl, l', hp8, hw8, hk8, hb8⟩
      have FX := (F0.out.up U7.out).mono hb8 (by rw [Z0.out]; omega)
      have F4 := FX.set2 0 0
      obtain ⟨k0, k1, f0, f1, _⟩ := FX
      have d0 := F4.c0
      have d1 := F4.c1
      obtain ⟨q8, c8, e8, hs8, hn8, hc8⟩ := hk8.vs
      have hl8 := hp8.length_eq
      have KS := Lib.hid hk8
      have B8 := Lib.hid (up0.trans ((U7.out.trans hb8).mono up0.size))
      have L8 : Hid (Mv.vs l' = Mv.srt (Mv.raw (Mv.vs ra) (Mv.vs rb))) := Lib.hid (Mv.sort_one ((Mv.val_iff _).1 HA.out) ((Mv.val_iff _).1 HB.out) (by rw [← HRAW.out]; exact hp8.map _) (by
        unfold Mv.vs
        rw [List.pairwise_map]
        exact hw8.imp fun {a b} h => Int.not_lt.2 h))
      have HL8 := Lib.hid hl8
      clear hp8 hw8 hk8 hb8 hs8 hn8 hc8 e8 hl8 F4
      go_wp2_with fail
      refine bodyPost_ret (v := .tuple #[.slice q3 ks.length c3, .agg #[.int .i64 0, .int .i64 0]]) (by simp [results, Try.results16, go_sem, d0, d1]) rfl ?_
      have hg0 : w.heap.size < (w.alloc (.cells #[.int .i64 0, .int .i64 0] 24 (0, 0))).heap.size := by rw [Z0.out]; omega
      obtain ⟨q9, c9, e9, hs9, hn9, hc9⟩ := ((KS.out.set (k := 0) hg0 (.int .i64 0)).set (k := 1) hg0 (.int .i64 0)).vs
      rw [EE.out.1, EE.out.2.1, EE.out.2.2]
      rw [← HL8.out] at e9 ⊢
      cases e9
      exact ⟨q3, l', c3, rfl, hs9, L8.out, hn9, hc9, (B8.out.setCell (p := ⟨w.heap.size, 0, none⟩) (by simp) _).setCell (p := ⟨w.heap.size, 1, none⟩) (by simp) _⟩
end Go.Proofs.Ytidncnhhjfdifaa
