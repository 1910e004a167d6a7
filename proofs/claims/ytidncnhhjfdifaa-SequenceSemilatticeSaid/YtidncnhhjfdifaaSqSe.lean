
/-
  The law SequenceSemilattice, walked.
-/
import Derived.Test.YtidncnhhjfdifaaSqMr
import Derived.Test.YtidncnhhjfdifaaSqT
namespace Go.Proofs.Ytidncnhhjfdifaa
open Go.RowKit
set_option maxRecDepth 4000
set_option maxHeartbeats 4000000 in
theorem ops_same (p q : Option Addr) (l m : List Sq.O) (cap cap' : Nat) (w : World) (hp : Row opE w p l) (hq : Row opE w q m) (he : l = m) (hl : l.length ≤ 1000000) :
    Calls Try.prog 28 #[.slice p l.length cap, .slice q m.length cap'] w (QPost (.bool true) w) := by
  subst he
  have g0 : ((l.length : Int) != (l.length : Int)) = false := by simp
  have HP := Lib.hid hp
  have HQ := Lib.hid hq
  clear hp hq
  go_enter Try.func28, Try.ntmps28
  go_wp2
  go_loopw [5] (fun i wr => ∃ k n : Nat, k ≤ l.length ∧ i = .int .i64 k ∧ wr = w.drewN n) (fun i _ => l.length - (intOf i).toNat)
  case atStart => exact ⟨0, 0, Nat.zero_le _, rfl, rfl⟩
  case round =>
    obtain ⟨k, n, hk, rfl, hw⟩ := hrel
    have HW := Lib.hid hw
    clear hw
    by_cases hlt : k < l.length
    · obtain ⟨b, off, rfl, -, hc⟩ := HP.out.cell hlt
      obtain ⟨b', off', rfl, -, hc'⟩ := HQ.out.cell hlt
      have b7 : (0 : Int) ≤ (k : Int) := by omega
      have b8 : (k : Int) < (l.length : Int) := by omega
      have HLT := Lib.hid hlt
      generalize l[k]'hlt = x at hc hc'
      clear hlt
      have d0 : wr.cell? ⟨b, off + k * 6, none⟩ = some (.bool x.del) := by rw [HW.out, World.cell?_drewN]; exact hc 0 _ rfl
      have d1 : wr.cell? ⟨b, off + k * 6 + 1, none⟩ = some (.int .i64 x.rep) := by rw [HW.out, World.cell?_drewN]; exact hc 1 _ rfl
      have d2 : wr.cell? ⟨b, off + k * 6 + 2, none⟩ = some (.int .i64 x.cnt) := by rw [HW.out, World.cell?_drewN]; exact hc 2 _ rfl
      have d3 : wr.cell? ⟨b, off + k * 6 + 3, none⟩ = some (.int .i64 x.arep) := by rw [HW.out, World.cell?_drewN]; exact hc 3 _ rfl
      have d4 : wr.cell? ⟨b, off + k * 6 + 4, none⟩ = some (.int .i64 x.acnt) := by rw [HW.out, World.cell?_drewN]; exact hc 4 _ rfl
      have d5 : wr.cell? ⟨b, off + k * 6 + 5, none⟩ = some (.string x.line) := by rw [HW.out, World.cell?_drewN]; exact hc 5 _ rfl
      have e0 : wr.cell? ⟨b', off' + k * 6, none⟩ = some (.bool x.del) := by rw [HW.out, World.cell?_drewN]; exact hc' 0 _ rfl
      have e1 : wr.cell? ⟨b', off' + k * 6 + 1, none⟩ = some (.int .i64 x.rep) := by rw [HW.out, World.cell?_drewN]; exact hc' 1 _ rfl
      have e2 : wr.cell? ⟨b', off' + k * 6 + 2, none⟩ = some (.int .i64 x.cnt) := by rw [HW.out, World.cell?_drewN]; exact hc' 2 _ rfl
      have e3 : wr.cell? ⟨b', off' + k * 6 + 3, none⟩ = some (.int .i64 x.arep) := by rw [HW.out, World.cell?_drewN]; exact hc' 3 _ rfl
      have e4 : wr.cell? ⟨b', off' + k * 6 + 4, none⟩ = some (.int .i64 x.acnt) := by rw [HW.out, World.cell?_drewN]; exact hc' 4 _ rfl
      have e5 : wr.cell? ⟨b', off' + k * 6 + 5, none⟩ = some (.string x.line) := by rw [HW.out, World.cell?_drewN]; exact hc' 5 _ rfl
      have hne := fun W => opNe x x W
      rw [decide_eq_true rfl] at hne
      unfold Sq.O.v at hne
      clear hc hc'
      go_wp2_with fail
      go_quiet (fail)
      go_wp2_with fail
      go_roundw
      case rel => exact ⟨k + 1, _, HLT.out, by go_num, by rw [HW.out, World.drewN_drewN]⟩
      case measure => simp [intOf]; omega
    · go_wp2_with fail
      go_ret
      exact ⟨rfl, n, HW.out⟩
set_option maxRecDepth 100000 in
set_option maxHeartbeats 4000000 in
theorem seqlat_walk (pa : Option Addr) (a : List Sq.O) (ca : Nat) (pb : Option Addr) (b : List Sq.O) (cb : Nat) (pc : Option Addr) (c : List Sq.O) (cc : Nat) (w : World)
    (hp : Row opE w pa a) (hn : pa = none → ca = 0) (hl : a.length ≤ 2513169434845) (_ : a.length ≤ ca) (hs : ∀ o ∈ a, o.line.size ≤ 140737488351232)
    (hp2 : Row opE w pb b) (hn2 : pb = none → cb = 0) (hl2 : b.length ≤ 2513169434845) (_ : b.length ≤ cb) (hs2 : ∀ o ∈ b, o.line.size ≤ 140737488351232)
    (hp3 : Row opE w pc c) (_ : pc = none → cc = 0) (hl3 : c.length ≤ 2513169434845) (_ : c.length ≤ cc) (hs3 : ∀ o ∈ c, o.line.size ≤ 140737488351232) :
    Calls Try.prog 10 #[.slice pa a.length ca, .slice pb b.length cb, .slice pc c.length cc] w (TPost w) := by
  have RA := Lib.hid hp
  have RB := Lib.hid hp2
  have RC := Lib.hid hp3
  have NA := Lib.hid hn
  have NB := Lib.hid hn2
  have LA := Lib.hid hl
  have LB := Lib.hid hl2
  have LC := Lib.hid hl3
  have SA := Lib.hid hs
  have SB := Lib.hid hs2
  have SC := Lib.hid hs3
  have B0 := Lib.hid (Below.refl w.heap.size w)
  have TC := Lib.hid (Sq.m_comm a b)
  have TL := Lib.hid (fun h => Sq.l_comm (a := a) (b := b) h)
  have TA := Lib.hid (fun h => Sq.m_again (a := a) (b := b) h)
  have TS := Lib.hid (fun h1 h2 h3 h4 => Sq.m_assoc (a := a) (b := b) (c := c) h1 h2 h3 h4)
  have SX := Lib.hid (fun o (ho : o ∈ Sq.mL a b) => (Sq.mL_mem ho).elim (hs o) (hs2 o))
  have X60 := Lib.hid (Sq.mL_len a b)
  have SV := Lib.hid (fun o (ho : o ∈ Sq.mL b c) => (Sq.mL_mem ho).elim (hs2 o) (hs3 o))
  have V60 := Lib.hid (Sq.mL_len b c)
  have M1 := Lib.hid (sqMerge_any pa pb a b ca cb w hp hp2 hn hl hl2 hs hs2)
  clear hp hn hl hs hp2 hn2 hl2 hs2 hp3 hl3 hs3
  go_enter Try.func10, Try.ntmps10
  go_wp2_with fail
  refine M1.out.mono ?_
  rintro e w1 ⟨qx, cx, rfl, hrow, hnc, hb⟩
  generalize Sq.mC a b = f at TC TL TA TS ⊢
  generalize Sq.mI a b = fi
  generalize Sq.mL a b = x at TL TA TS SX X60 hrow ⊢
  have u := up_alloc (Below.refl w1.heap.size w1) (.cells #[.int .i64 f, .int .i64 fi] 24 (0, 0))
  have uu := up_call hb u
  have Fx_1 := Lib.hid (Flt.new w1 f fi 24)
  have Rx_1 := Lib.hid (hrow.mono u)
  have B1 := Lib.hid (up_call B0.out uu)
  have Nx := Lib.hid hnc
  clear M1 hrow hnc hb u uu
  dsimp only
  go_wp2_with fail
  generalize w1.alloc (.cells #[.int .i64 f, .int .i64 fi] 24 (0, 0)) = W1 at Fx_1 Rx_1 B1 ⊢
  have M2 := Lib.hid (sqMerge_any pb pa b a cb ca W1 (RB.out.mono B1.out) (RA.out.mono B1.out) NB.out LB.out LA.out SB.out SA.out)
  refine M2.out.mono ?_
  rintro e w2 ⟨qy, cy, rfl, hrow, hnc, hb⟩
  generalize Sq.mC b a = g at TC ⊢
  generalize Sq.mI b a = gi
  generalize Sq.mL b a = y at TL hrow ⊢
  have u := up_alloc (Below.refl w2.heap.size w2) (.cells #[.int .i64 g, .int .i64 gi] 24 (0, 0))
  have uu := up_call hb u
  have Fx_2 := Lib.hid (Fx_1.out.up uu)
  have Rx_2 := Lib.hid (Rx_1.out.mono uu)
  have Fy_2 := Lib.hid (Flt.new w2 g gi 24)
  have Ry_2 := Lib.hid (hrow.mono u)
  have B2 := Lib.hid (up_call B1.out uu)
  have Ny := Lib.hid hnc
  clear M2 hrow hnc hb u uu Fx_1 Rx_1
  obtain ⟨a0_0, a0_1, -, -, -⟩ := Fx_2.out
  obtain ⟨a1_0, a1_1, -, -, -⟩ := Fy_2.out
  by_cases hf : f = 0
  case neg =>
    have hg : g ≠ 0 := fun h => hf (TC.out.2 h)
    have g0 : (f != 0) = true := by rw [bne_iff_ne]; exact hf
    have g1 : (f == 0) = false := by rw [beq_eq_false_iff_ne]; exact hf
    have g2 : (g == 0) = false := by rw [beq_eq_false_iff_ne]; exact hg
    clear hf hg
    dsimp only
    go_wp2_with fail
    refine (latest_any _).mono ?_
    rintro e w9 ⟨rfl, hb9⟩
    go_wp2_with fail
    go_returns
    exact ⟨rfl, up_call B2.out hb9⟩
  case pos =>
  have hg : g = 0 := TC.out.1 hf
  have g0 : (f != 0) = false := by rw [hf]; rfl
  have g1 : (g != 0) = false := by rw [hg]; rfl
  have L1 := Lib.hid (TL.out hf)
  have L2 := Lib.hid (TA.out hf)
  have L3 := Lib.hid (TS.out hf)
  clear hf hg TC TL TA TS
  dsimp only
  go_wp2_with fail
  generalize w2.alloc (.cells #[.int .i64 g, .int .i64 gi] 24 (0, 0)) = W2 at Fx_2 Rx_2 Fy_2 Ry_2 B2 a0_0 a0_1 a1_0 a1_1 ⊢
  clear a0_0 a0_1 a1_0 a1_1
  have XB : Hid (x.length ≤ 2513169434845) := Lib.hid (Nat.le_trans X60.out (by omega))
  have M3 := Lib.hid (sqMerge_any qx pa x a cx ca W2 Rx_2.out (RA.out.mono B2.out) Nx.out XB.out LA.out SX.out SA.out)
  rw [L2.out.1, L2.out.2, Sq.mI_zero L2.out.1] at M3
  refine M3.out.mono ?_
  rintro e w3 ⟨qz, cz, rfl, hrow, hnc, hb⟩
  have u := up_alloc (Below.refl w3.heap.size w3) (.cells #[.int .i64 0, .int .i64 0] 24 (0, 0))
  have uu := up_call hb u
  have Fx_3 := Lib.hid (Fx_2.out.up uu)
  have Rx_3 := Lib.hid (Rx_2.out.mono uu)
  have Fy_3 := Lib.hid (Fy_2.out.up uu)
  have Ry_3 := Lib.hid (Ry_2.out.mono uu)
  have Fz_3 := Lib.hid (Flt.new w3 0 0 24)
  have Rz_3 := Lib.hid (hrow.mono u)
  have B3 := Lib.hid (up_call B2.out uu)
  have Nz := Lib.hid hnc
  clear M3 hrow hnc hb u uu Fx_2 Rx_2 Fy_2 Ry_2
  dsimp only
  go_wp2_with fail
  generalize w3.alloc (.cells #[.int .i64 0, .int .i64 0] 24 (0, 0)) = W3 at Fx_3 Rx_3 Fy_3 Ry_3 Fz_3 Rz_3 B3 ⊢
  have M4 := Lib.hid (sqMerge_any qx pc x c cx cc W3 Rx_3.out (RC.out.mono B3.out) Nx.out XB.out LC.out SX.out SC.out)
  refine M4.out.mono ?_
  have U60 := Lib.hid (Sq.mL_len x c)
  rintro e w4 ⟨qu, cu, rfl, hrow, hnc, hb⟩
  generalize Sq.mC x c = i at L3 ⊢
  generalize Sq.mI x c = ii
  generalize Sq.mL x c = u at L3 U60 hrow ⊢
  have u := up_alloc (Below.refl w4.heap.size w4) (.cells #[.int .i64 i, .int .i64 ii] 24 (0, 0))
  have uu := up_call hb u
  have Fx_4 := Lib.hid (Fx_3.out.up uu)
  have Rx_4 := Lib.hid (Rx_3.out.mono uu)
  have Fy_4 := Lib.hid (Fy_3.out.up uu)
  have Ry_4 := Lib.hid (Ry_3.out.mono uu)
  have Fz_4 := Lib.hid (Fz_3.out.up uu)
  have Rz_4 := Lib.hid (Rz_3.out.mono uu)
  have Fu_4 := Lib.hid (Flt.new w4 i ii 24)
  have Ru_4 := Lib.hid (hrow.mono u)
  have B4 := Lib.hid (up_call B3.out uu)
  have Nu := Lib.hid hnc
  clear M4 hrow hnc hb u uu Fx_3 Rx_3 Fy_3 Ry_3 Fz_3 Rz_3
  dsimp only
  go_wp2_with fail
  generalize w4.alloc (.cells #[.int .i64 i, .int .i64 ii] 24 (0, 0)) = W4 at Fx_4 Rx_4 Fy_4 Ry_4 Fz_4 Rz_4 Fu_4 Ru_4 B4 ⊢
  have M5 := Lib.hid (sqMerge_any pb pc b c cb cc W4 (RB.out.mono B4.out) (RC.out.mono B4.out) NB.out LB.out LC.out SB.out SC.out)
  refine M5.out.mono ?_
  rintro e w5 ⟨qv, cv, rfl, hrow, hnc, hb⟩
  generalize Sq.mC b c = j at L3 ⊢
  generalize Sq.mI b c = ji
  generalize Sq.mL b c = v at L3 SV V60 hrow ⊢
  have u := up_alloc (Below.refl w5.heap.size w5) (.cells #[.int .i64 j, .int .i64 ji] 24 (0, 0))
  have uu := up_call hb u
  have Fx_5 := Lib.hid (Fx_4.out.up uu)
  have Rx_5 := Lib.hid (Rx_4.out.mono uu)
  have Fy_5 := Lib.hid (Fy_4.out.up uu)
  have Ry_5 := Lib.hid (Ry_4.out.mono uu)
  have Fz_5 := Lib.hid (Fz_4.out.up uu)
  have Rz_5 := Lib.hid (Rz_4.out.mono uu)
  have Fu_5 := Lib.hid (Fu_4.out.up uu)
  have Ru_5 := Lib.hid (Ru_4.out.mono uu)
  have Fv_5 := Lib.hid (Flt.new w5 j ji 24)
  have Rv_5 := Lib.hid (hrow.mono u)
  have B5 := Lib.hid (up_call B4.out uu)
  have Nv := Lib.hid hnc
  clear M5 hrow hnc hb u uu Fx_4 Rx_4 Fy_4 Ry_4 Fz_4 Rz_4 Fu_4 Ru_4
  dsimp only
  go_wp2_with fail
  generalize w5.alloc (.cells #[.int .i64 j, .int .i64 ji] 24 (0, 0)) = W5 at Fx_5 Rx_5 Fy_5 Ry_5 Fz_5 Rz_5 Fu_5 Ru_5 Fv_5 Rv_5 B5 ⊢
  have M6 := Lib.hid (sqMerge_any pa qv a v ca cv W5 (RA.out.mono B5.out) Rv_5.out NA.out LA.out (Nat.le_trans V60.out (by omega)) SA.out SV.out)
  refine M6.out.mono ?_
  rintro e w6 ⟨qt, ct, rfl, hrow, hnc, hb⟩
  generalize Sq.mC a v = k at L3 ⊢
  generalize Sq.mI a v = ki
  generalize Sq.mL a v = t at L3 hrow ⊢
  have u := up_alloc (Below.refl w6.heap.size w6) (.cells #[.int .i64 k, .int .i64 ki] 24 (0, 0))
  have uu := up_call hb u
  have Fx_6 := Lib.hid (Fx_5.out.up uu)
  have Rx_6 := Lib.hid (Rx_5.out.mono uu)
  have Fy_6 := Lib.hid (Fy_5.out.up uu)
  have Ry_6 := Lib.hid (Ry_5.out.mono uu)
  have Fz_6 := Lib.hid (Fz_5.out.up uu)
  have Rz_6 := Lib.hid (Rz_5.out.mono uu)
  have Fu_6 := Lib.hid (Fu_5.out.up uu)
  have Ru_6 := Lib.hid (Ru_5.out.mono uu)
  have Fv_6 := Lib.hid (Fv_5.out.up uu)
  have Rv_6 := Lib.hid (Rv_5.out.mono uu)
  have Ft_6 := Lib.hid (Flt.new w6 k ki 24)
  have Rt_6 := Lib.hid (hrow.mono u)
  have B6 := Lib.hid (up_call B5.out uu)
  have Nt := Lib.hid hnc
  clear M6 hrow hnc hb u uu Fx_5 Rx_5 Fy_5 Ry_5 Fz_5 Rz_5 Fu_5 Ru_5 Fv_5 Rv_5
  dsimp only
  go_wp2_with fail
  generalize w6.alloc (.cells #[.int .i64 k, .int .i64 ki] 24 (0, 0)) = W6 at Fx_6 Rx_6 Fy_6 Ry_6 Fz_6 Rz_6 Fu_6 Ru_6 Fv_6 Rv_6 Ft_6 Rt_6 B6 ⊢
  have E1 := Lib.hid (ops_same qx qy x y cx cy W6 Rx_6.out Ry_6.out L1.out (Nat.le_trans X60.out (by omega)))
  refine E1.out.mono ?_
  rintro e w7 ⟨rfl, n, rfl⟩
  have E2 := Lib.hid (ops_same qz qx x x cz cx (W6.drewN n) (Rz_6.out.mono (below_drewN (Below.refl _ _) n)) (Rx_6.out.mono (below_drewN (Below.refl _ _) n)) rfl (Nat.le_trans X60.out (by omega)))
  have FD0 := Lib.hid (Fz_6.out.drewN n)
  have FD1 := Lib.hid (Fu_6.out.drewN n)
  have FD2 := Lib.hid (Fv_6.out.drewN n)
  have FD3 := Lib.hid (Ft_6.out.drewN n)
  obtain ⟨a0_0, a0_1, -, -, -⟩ := FD0.out
  obtain ⟨a1_0, a1_1, -, -, -⟩ := FD1.out
  obtain ⟨a2_0, a2_1, -, -, -⟩ := FD2.out
  obtain ⟨a3_0, a3_1, -, -, -⟩ := FD3.out
  dsimp only
  go_wp2_with fail
  refine E2.out.mono ?_
  rintro e w8 ⟨rfl, m, rfl⟩
  clear a0_0 a0_1 a1_0 a1_1 a2_0 a2_1 a3_0 a3_1
  have FE0 := Lib.hid (Fz_6.out.drewN (n + m))
  have FE1 := Lib.hid (Fu_6.out.drewN (n + m))
  have FE2 := Lib.hid (Fv_6.out.drewN (n + m))
  have FE3 := Lib.hid (Ft_6.out.drewN (n + m))
  obtain ⟨a0_0, a0_1, -, -, -⟩ := FE0.out
  obtain ⟨a1_0, a1_1, -, -, -⟩ := FE1.out
  obtain ⟨a2_0, a2_1, -, -, -⟩ := FE2.out
  obtain ⟨a3_0, a3_1, -, -, -⟩ := FE3.out
  have BN := Lib.hid (below_drewN B6.out (n + m))
  by_cases hi : i = 0
  case neg =>
    have qi : (i != 0) = true := by rw [bne_iff_ne]; exact hi
    clear hi
    dsimp only
    go_wp2_with fail
    refine (latest_any _).mono ?_
    rintro e w9 ⟨rfl, hb9⟩
    go_wp2_with fail
    go_returns
    exact ⟨rfl, up_call BN.out hb9⟩
  case pos =>
  have qi : (i != 0) = false := by rw [hi]; rfl
  have Hi := Lib.hid hi
  clear hi
  by_cases hj : j = 0
  case neg =>
    have qj : (j != 0) = true := by rw [bne_iff_ne]; exact hj
    clear hj
    dsimp only
    go_wp2_with fail
    refine (latest_any _).mono ?_
    rintro e w9 ⟨rfl, hb9⟩
    go_wp2_with fail
    go_returns
    exact ⟨rfl, up_call BN.out hb9⟩
  case pos =>
  have qj : (j != 0) = false := by rw [hj]; rfl
  have Hj := Lib.hid hj
  clear hj
  by_cases hk : k = 0
  case neg =>
    have qk : (k != 0) = true := by rw [bne_iff_ne]; exact hk
    clear hk
    dsimp only
    go_wp2_with fail
    refine (latest_any _).mono ?_
    rintro e w9 ⟨rfl, hb9⟩
    go_wp2_with fail
    go_returns
    exact ⟨rfl, up_call BN.out hb9⟩
  case pos =>
  have qk : (k != 0) = false := by rw [hk]; rfl
  have Hk := Lib.hid hk
  clear hk
  have E3 := Lib.hid (ops_same qu qt u t cu ct (W6.drewN (n + m)) (Ru_6.out.mono (below_drewN (Below.refl _ _) (n + m))) (Rt_6.out.mono (below_drewN (Below.refl _ _) (n + m))) (L3.out Hi.out Hj.out Hk.out) (Nat.le_trans U60.out (by omega)))
  dsimp only
  go_wp2_with fail
  refine E3.out.mono ?_
  rintro e w9 ⟨rfl, d, rfl⟩
  have BT := Lib.hid (below_drewN B6.out (n + m + d))
  go_wp2_with fail
  refine (latest_any _).mono ?_
  rintro e w9 ⟨rfl, hb9⟩
  go_wp2_with fail
  go_returns
  exact ⟨rfl, up_call BT.out hb9⟩
end Go.Proofs.Ytidncnhhjfdifaa
