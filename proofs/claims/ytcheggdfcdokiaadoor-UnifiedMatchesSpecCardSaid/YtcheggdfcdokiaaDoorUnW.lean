
/-
  The law UnifiedMatchesSpec, walked.
-/
import Derived.Test.YtcheggdfcdokiaaDoorUnP
import Derived.Test.YtcheggdfcdokiaaDoorUnQ
import Derived.Test.YtcheggdfcdokiaaDoorUnG
import Derived.Test.YtcheggdfcdokiaaDoorUnI
import Derived.Test.YtcheggdfcdokiaaDoorRows
import Derived.LaidMore
import Derived.LaidSub
import Derived.MakeChecks
import Derived.Lib.LaidTab
import Derived.Lib.SmallJoins
import Derived.Lib.ItoaMem
import Derived.Lib.AppendIntMem
namespace Go.Proofs.YtcheggdfcdokiaaDoor
open Go.RowKit
set_option maxRecDepth 4000

theorem tab_of {w : World} (h : laidMetH Tryd.prog Rows.unifiedMatchesSpecRow.laid w) : Lib.TabIs Tryd.prog w "internal/strconv.uint64pow10" .u64 Lib.pow10Tab := by
  have h1 := h.filter (fun p => p.1 == "internal/strconv.uint64pow10")
  rw [MakeChecks.laidMetH_plain _ _ _ (by kernel_rfl)] at h1
  exact Lib.tabIs_of_head (g := 1) (by kernel_rfl) (by kernel_rfl) Tryd.underlying94 Tryd.underlying85 (by kernel_rfl) (by kernel_rfl) (rest := []) h1
theorem itoa_all {w0 w : World} (h : Lib.TabIs Tryd.prog w0 "internal/strconv.uint64pow10" .u64 Lib.pow10Tab) (hb : Below w0.heap.size w0 w) : ItoaTo 1000 w := fun n w' hn hb' =>
  (Tryd.strconv_Itoa (n : Int) (by omega) (by omega) w' (Joins.tab_stays (g := 1) (by kernel_rfl) h (up_call hb hb') (Nat.le_refl _))).mono fun e w'' ⟨h1, k, os, h2⟩ =>
    ⟨by rw [h1, Lib.itoa_nonneg]; rfl, by rw [h2]; exact Lib.below_grow _ _ (Nat.le_refl _) k os⟩
namespace Tp
theorem oz_len (t : List ByteArray) (R : Nat) : ∀ (hs : List H) (lo : Int) (i : Nat) (acc : List Int), (oz t R hs lo i acc).2.length ≤ acc.length + hs.length
  | [], _, _, acc => by simp [oz]
  | h :: r, lo, i, acc => by
    unfold oz
    cases off t R lo h with
    | none => simp
    | some d =>
      have := oz_len t R r (en h + d + 1) (i + 1) (acc ++ [d])
      simp at this ⊢
      omega
theorem z_small (t : List ByteArray) (hs : List H) (r : Int) : (∀ x ∈ zT t hs r, x.size ≤ 140737488351232) ∧ (zT t hs r).length ≤ 281474976710656 ∧ (zO t hs r).length ≤ 1000000 := by
  by_cases h : zC t hs r = 0
  · have h' := h
    unfold zC at h
    split at h
    · rename_i hp; exact (hp h).elim
    · rename_i hp
      split at h
      · rename_i hv; exact (hv h).elim
      · split at h
        · cases h
        · split at h
          · cases h
          · have hp' : pC hs = 0 := by simpa using hp
            have ok := aC_zero.1 h
            have eT : zT t hs r = ap t 0 (mvs hs (oz t r.toNat hs 0 0 []).2) := by
              unfold zT; rw [if_pos h']; unfold aT; rw [if_pos h]
            have sm := ap_small ok.vp ok.vt 0 0
            rw [List.drop_zero] at sm
            have hl := (pC_zero.1 hp').len
            have ho := oz_len t r.toNat hs 0 0 []
            have eO : zO t hs r = (oz t r.toNat hs 0 0 []).2 := if_pos h'
            rw [eT, eO]
            refine ⟨sm, by have := ok.len; omega, by simp at ho; omega⟩
  · have eT : zT t hs r = [] := if_neg h
    have eO : zO t hs r = [] := if_neg h
    rw [eT, eO]
    simp
end Tp
set_option maxRecDepth 100000 in
set_option maxHeartbeats 8000000 in
theorem matches_walk (pt : Option Addr) (t : List ByteArray) (ct : Nat) (p : Option Addr) (hs : List Tp.H) (cap : Nat) (c reach : Int) (w : World) (ht : Sts w pt t) (hct : pt = none → ct = 0) (_hlt : t.length ≤ 8796093021952) (hlc : t.length ≤ ct)
    (hp : Ptc w p hs) (_hc : p = none → cap = 0) (hl : hs.length ≤ 2513169434845) (_hlc : hs.length ≤ cap) (_hf : ∀ k ∈ hs, fits63 k.at') (_wc : (Lit.int .i64 c).wf = true) (_wr : (Lit.int .i64 reach).wf = true) (hL : laidMetH Tryd.prog Rows.unifiedMatchesSpecRow.laid w) :
    Calls Tryd.prog 3 #[.slice pt t.length ct, .agg #[.slice p hs.length cap], .int .i64 c, .int .i64 reach] w (TPost w) := by
  have b0 := up_alloc (Below.refl w.heap.size w) (.cells #[.slice p hs.length cap] 25 (0, 0))
  have P0 := Lib.hid (hp.mono b0)
  have T0 := Lib.hid (ht.mono b0)
  have O0 := Lib.hid (One.new w (.slice p hs.length cap) 25 w.heap.size rfl)
  have B0 := Lib.hid b0
  have TB := Lib.hid (tab_of hL)
  have HC := Lib.hid hct
  have HL := Lib.hid hlc
  have IT := Lib.hid (itoa_all TB.out b0)
  obtain ⟨zs1, zs2, zs3⟩ := Tp.z_small t hs reach
  have ZS := Lib.hid zs1
  have hFm : Tp.aC hs t = 0 → ¬ (c < 0 ∨ 120 < c) → FmOk 1000 t c 0 (Tp.gfold c none [] hs) ∧ (Tp.gfold c none [] hs).length ≤ 130 := fun h1 h2 => fm_okall (Tp.aC_zero.1 h1) (by omega)
  have HFm := Lib.hid hFm
  clear hp ht b0 hct hlc _hf _hlc _hc _hlt _wr _wc hL zs1 hFm TB
  go_enter Tryd.func3, Tryd.ntmps3
  go_wp2_with fail
  refine (format_any 1000 p pt hs t cap ct c _ IT.out (Nat.le_refl _) P0.out hl T0.out HC.out HL.out HFm.out).mono ?_
  rintro e w1 ⟨rfl, hb1⟩
  have a1 := up_alloc (Below.refl w1.heap.size w1) (.cells #[.int .i64 (fmC t hs c), .int .i64 (fmI t hs c)] 27 (0, 0))
  have B1 := Lib.hid (up_call (up_call B0.out hb1) a1)
  have P1 := Lib.hid ((P0.out.mono hb1).mono a1)
  have T1 := Lib.hid ((T0.out.mono hb1).mono a1)
  have O1 := Lib.hid ((O0.out.up hb1).up a1)
  have F1 := Lib.hid (Flt.new w1 (fmC t hs c) (fmI t hs c) 27)
  have oc1 := O1.out.c
  clear hb1 a1 B0 P0 T0 O0 IT HFm
  obtain ⟨X, hX⟩ : ∃ X, X = fmS t hs c := ⟨_, rfl⟩
  obtain ⟨XC, hXC⟩ : ∃ X, X = fmC t hs c := ⟨_, rfl⟩
  obtain ⟨XI, hXI⟩ : ∃ X, X = fmI t hs c := ⟨_, rfl⟩
  have RF := Lib.hid (refFormat_any p pt hs t cap ct c _ P1.out hl T1.out HC.out HL.out)
  rw [← hXC, ← hXI] at B1 P1 T1 O1 F1 oc1 RF ⊢
  rw [← hX] at RF ⊢
  clear hX hXC hXI
  go_wp2_with fail
  refine RF.out.mono ?_
  rintro e w2 ⟨rfl, hb2⟩
  clear RF
  have a2 := up_alloc (Below.refl w2.heap.size w2) (.cells #[.int .i64 XC, .int .i64 XI] 27 (0, 0))
  have B2 := Lib.hid (up_call (up_call B1.out hb2) a2)
  have P2 := Lib.hid ((P1.out.mono hb2).mono a2)
  have T2 := Lib.hid ((T1.out.mono hb2).mono a2)
  have O2 := Lib.hid ((O1.out.up hb2).up a2)
  have F2 := Lib.hid ((F1.out.up hb2).up a2)
  have G2 := Lib.hid (Flt.new w2 XC XI 27)
  have oc2 := O2.out.c
  clear hb2 a2 B1 P1 T1 O1 F1 oc1
  go_wp2_with fail
  refine (fuzzy_any p pt hs t cap ct reach _ P2.out hl T2.out HC.out HL.out).mono ?_
  rintro e w3 ⟨vt, vo, rfl, own3, ow3, hb3⟩
  obtain ⟨ZC, hZC⟩ : ∃ X, X = Tp.zC t hs reach := ⟨_, rfl⟩
  obtain ⟨ZI, hZI⟩ : ∃ X, X = Tp.zI t hs reach := ⟨_, rfl⟩
  have HZC := Lib.hid hZC
  have HZI := Lib.hid hZI
  rw [← hZC, ← hZI]
  clear hZC hZI
  have a3 := up_alloc (Below.refl w3.heap.size w3) (.cells #[.int .i64 ZC, .int .i64 ZI] 27 (0, 0))
  obtain ⟨pt3, ct3, rfl, -, -⟩ := ownS_shape own3
  obtain ⟨po3, co3, rfl, -, -, -, -⟩ := row_of_own ow3
  have B3 := Lib.hid (up_call (up_call B2.out hb3) a3)
  have P3 := Lib.hid ((P2.out.mono hb3).mono a3)
  have T3 := Lib.hid ((T2.out.mono hb3).mono a3)
  have O3 := Lib.hid ((O2.out.up hb3).up a3)
  have F3 := Lib.hid ((F2.out.up hb3).up a3)
  have G3 := Lib.hid ((G2.out.up hb3).up a3)
  have H3 := Lib.hid (Flt.new w3 ZC ZI 27)
  have V3 := Lib.hid (ownS_up own3 a3)
  have I3 := Lib.hid (ow3.up a3)
  have oc3 := O3.out.c
  clear own3 ow3 hb3 a3 B2 P2 T2 O2 F2 G2 oc2
  go_wp2_with fail
  refine (refFuzzy_any p pt hs t cap ct reach _ P3.out hl T3.out HC.out HL.out).mono ?_
  rintro e w4 ⟨ut, uo, rfl, own4, ow4, hb4⟩
  rw [← HZC.out, ← HZI.out]
  have a4 := up_alloc (Below.refl w4.heap.size w4) (.cells #[.int .i64 ZC, .int .i64 ZI] 27 (0, 0))
  obtain ⟨pt4, ct4, rfl, -, -⟩ := ownS_shape own4
  obtain ⟨po4, co4, rfl, -, -, -, -⟩ := row_of_own ow4
  have B4 := Lib.hid (up_call (up_call B3.out hb4) a4)
  have F4 := Lib.hid ((F3.out.up hb4).up a4)
  have G4 := Lib.hid ((G3.out.up hb4).up a4)
  have H4 := Lib.hid ((H3.out.up hb4).up a4)
  have K4 := Lib.hid (Flt.new w4 ZC ZI 27)
  have V4 := Lib.hid (ownS_up (ownS_up V3.out hb4) a4)
  have I4 := Lib.hid ((I3.out.up hb4).up a4)
  have U4 := Lib.hid (ownS_up own4 a4)
  have J4 := Lib.hid (ow4.up a4)
  clear own4 ow4 hb4 a4 B3 P3 T3 O3 F3 G3 H3 V3 I3 oc3
  obtain ⟨Z, hZ⟩ : ∃ Z, Z = Tp.zT t hs reach := ⟨_, rfl⟩
  obtain ⟨N, hN⟩ : ∃ N, N = Tp.zO t hs reach := ⟨_, rfl⟩
  rw [← hZ] at V4 U4 ZS zs2 ⊢
  rw [← hN] at I4 J4 zs3 ⊢
  clear hZ hN HZC HZI
  have SA := Lib.hid (ownS_sts V4.out ZS.out (by omega))
  have SB := Lib.hid (ownS_sts U4.out ZS.out (by omega))
  obtain ⟨po', co', ei, hrow, -, -, -⟩ := row_of_own I4.out
  simp only [Value.slice.injEq] at ei
  obtain ⟨rfl, -, rfl⟩ := ei
  have RI := Lib.hid hrow
  obtain ⟨po', co', ei, hrow', -, -, -⟩ := row_of_own J4.out
  simp only [Value.slice.injEq] at ei
  obtain ⟨rfl, -, rfl⟩ := ei
  have RJ := Lib.hid hrow'
  clear hrow hrow' V4 U4 I4 J4 ZS
  obtain ⟨f0, f1, -, -, -⟩ := F4.out
  obtain ⟨g0, g1, -, -, -⟩ := G4.out
  obtain ⟨h0, h1, -, -, -⟩ := H4.out
  obtain ⟨k0, k1, -, -, -⟩ := K4.out
  go_wp2_with fail
  refine (equal_any pt3 pt4 Z Z _ _ ct3 ct4 _ rfl rfl SA.out SB.out).mono ?_
  rintro e w5 ⟨rfl, n5, rfl⟩
  rw [eqS_true rfl]
  go_wp2_with fail
  refine (ints_same po3 po4 N _ _ co3 co4 _ rfl rfl (RI.out.drewN n5) (RJ.out.drewN n5) zs3).mono ?_
  rintro e w6 ⟨rfl, n6, rfl⟩
  go_wp2_with fail
  refine (shown_any _).mono ?_
  rintro e w7 ⟨rfl, hb7⟩
  have B7 := Lib.hid (up_call (below_drewN B4.out (n5 + n6)) hb7)
  clear hb7 B4
  go_wp2_with fail
  go_ret
  exact ⟨rfl, B7.out⟩
end Go.Proofs.YtcheggdfcdokiaaDoor
