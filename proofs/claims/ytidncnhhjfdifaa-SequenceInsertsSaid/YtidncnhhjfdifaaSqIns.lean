
/-
  The law SequenceInserts, walked.
-/
import Derived.Test.YtidncnhhjfdifaaSqInsR
namespace Go.Proofs.Ytidncnhhjfdifaa
open Go.RowKit
set_option maxRecDepth 4000
set_option maxRecDepth 100000 in
set_option maxHeartbeats 4000000 in
theorem inserts_walk (p : Option Addr) (l : List Sq.O) (cap : Nat) (o : Sq.O) (w : World) (hp : Row opE w p l) (hc : p = none → cap = 0) (hl : l.length ≤ 2513169434845) (_ : l.length ≤ cap) (hs : ∀ x ∈ l, x.line.size ≤ 140737488351232) (ho : o.line.size ≤ 140737488351232) :
    Calls Try.prog 11 #[.slice p l.length cap, o.v] w (TPost w) := by
  have up0 := boxO_up w o
  have OB0 := OpB.new w o
  unfold Sq.O.v
  unfold boxO at up0 OB0
  have HP := Lib.hid (hp.mono up0)
  have HC := Lib.hid hc
  have HS := Lib.hid hs
  have HLL := Lib.hid hl
  have HV := Lib.hid (show ∀ x ∈ l ++ [o], x.line.size ≤ 140737488351232 from fun x hx => by
    rcases List.mem_append.1 hx with hx | hx
    · exact hs x hx
    · rw [List.mem_singleton.1 hx]; exact ho)
  have HB := Lib.hid OB0
  have V1 := Lib.hid (vis_any p l cap _ HP.out hl HS.out)
  clear hp hc hs ho OB0
  go_enter Try.func11, Try.ntmps11
  go_wp2_with fail
  generalize w.alloc (.cells #[.bool o.del, .int .i64 o.rep, .int .i64 o.cnt, .int .i64 o.arep, .int .i64 o.acnt, .string o.line] 53 (0, 0)) = W0 at up0 HP HB V1 ⊢
  refine V1.out.mono ?_
  rintro e w1 ⟨p1, c1', rfl, hst1, hb1⟩
  have u1 := up_alloc (Below.refl w1.heap.size w1) (.cells #[.int .i64 (Sq.vC l), .int .i64 (Sq.vI l)] 24 (0, 0))
  have uu := up_call hb1 u1
  have ST1 := Lib.hid (hst1.mono u1)
  have B1 := Lib.hid (up_call up0 uu)
  have F1 := Lib.hid (Flt.new w1 (Sq.vC l) (Sq.vI l) 24)
  have HP1 := Lib.hid (HP.out.mono uu)
  have OB := Lib.hid (HB.out.up uu)
  clear hst1 hb1 u1 uu up0 V1 HP HB
  go_wp2_with fail
  generalize w1.alloc (.cells #[.int .i64 (Sq.vC l), .int .i64 (Sq.vI l)] 24 (0, 0)) = W1 at ST1 B1 F1 HP1 OB ⊢
  rename_i hKK
  refine region_factsC (by kernel_rfl) (by kernel_rfl) (fun y => { tmps := #[.slice p l.length cap, .agg #[.bool o.del, .int .i64 o.rep, .int .i64 o.cnt, .int .i64 o.arep, .int .i64 o.acnt, .string o.line], undef, .pointer (some ⟨w.heap.size, 0, none⟩), .bool false, .slice p1 (Sq.vL l).length c1', .pointer (some ⟨w1.heap.size, 0, none⟩), y 11, y 10, undef, undef, .tuple #[.slice p1 (Sq.vL l).length c1', .agg #[.int .i64 (Sq.vC l), .int .i64 (Sq.vI l)]], .slice p l.length cap, .tuple #[.slice p1 (Sq.vL l).length c1', .agg #[.int .i64 (Sq.vC l), .int .i64 (Sq.vI l)]], .slice p1 (Sq.vL l).length c1', .agg #[.int .i64 (Sq.vC l), .int .i64 (Sq.vI l)], y 7, y 0, y 1, y 2, y 3, y 4, y 5, y 6, y 8, y 9, undef, undef, undef, undef, undef, undef, undef, undef, undef, undef, undef, undef, undef, undef, undef, undef, undef, undef, undef, undef, undef, undef, undef, undef, undef, undef, undef, undef, undef, undef, undef, undef, undef, undef, undef, undef, undef, undef, undef, undef, undef, undef, undef, undef, undef, undef, undef, undef, undef, undef, undef, undef, undef], defers := [] }) (fun _ => undef) rfl (fun _ w' => Below W1.heap.size W1 w') 5 (inS W1 p (l) (l ++ [o]) o (l.length) cap) (by simp) (Below.refl _ _).drew ?_ (by simp)
  refine steps_consC ?_ (steps_consC ?_ (steps_consC ?_ (steps_consC ?_ (steps_consC ?_ (steps_consC ?_ (steps_consC ?_ (steps_consC ?_ (steps_consC ?_ (steps_consC ?_ (steps_consC ?_ (steps_consC ?_ (steps_lastC ?_))))))))))))
  · refine step_mkC [] rfl rfl (fun _ _ => rfl) ?_
    intro x w5 b hb hC hd K hK
    dsimp only at hK ⊢
    go_simp
    exact hK _ _ (up_alloc hC _) ⟨_, rfl⟩ (fun j u _ h => inS_up (up_alloc (Below.refl _ _) _) rfl h)
  · refine step_mkC [] rfl rfl (fun _ _ => rfl) ?_
    intro x w5 b hb hC hd K hK
    dsimp only at hK ⊢
    go_simp
    exact hK _ _ (hC) rfl (fun j u _ h => inS_up (Below.refl _ _) rfl h)
  · refine step_mkC [0, 1] rfl rfl (fun _ _ => rfl) ?_
    intro x w5 b hb hC hd K hK
    obtain ⟨g, e0⟩ := hd 0 (by simp)
    have e1 : x 1 = _ := hd 1 (by simp)
    obtain ⟨v', w', hrun, ha, hbl⟩ := app_zero (B := W1.heap.size) (b := g) (c := cap) 41 (HP1.out.mono hC) hC.size (by have := HLL.out; omega)
    skip
    dsimp only at hK ⊢
    simp only [e0, e1] at hK ⊢
    refine step_run (.tmp 17) (.tmp 18) rfl rfl rfl hrun ?_
    exact hK _ _ (up_call hC hbl) (.inr ha) (fun j u _ h => inS_up hbl rfl h)
  · refine step_mkC [] rfl rfl (fun _ _ => rfl) ?_
    intro x w5 b hb hC hd K hK
    obtain ⟨c0, c1, c2, c3, c4, c5, _⟩ := OB.out.up hC
    dsimp only at hK ⊢
    go_simp
    exact hK _ _ (hC) rfl (fun j u _ h => inS_up (Below.refl _ _) rfl h)
  · refine step_mkC [3] rfl rfl (fun _ _ => rfl) ?_
    intro x w5 b hb hC hd K hK
    have e3 : x 3 = _ := hd 3 (by simp)
    dsimp only at hK ⊢
    simp only [e3] at hK ⊢
    go_simp
    exact hK _ _ (up_alloc hC _) (.inr ⟨_, rfl, row_litO w5 o⟩) (fun j u _ h => inS_up (up_alloc (Below.refl _ _) _) rfl h)
  · refine step_mkC [2, 4, 2] rfl rfl (fun _ _ => rfl) ?_
    intro x w5 b hb hC hd K hK
    have hbf := hb rfl
    subst hbf
    have e2 : Ap W1.heap.size w5 (x 2) (l) := (hd 2 (by simp)).resolve_left (by decide)
    obtain ⟨a4, e4, hrow⟩ := (hd 4 (by simp)).resolve_left (by decide)
    obtain ⟨v', w', hrun, ha, hgr⟩ := app_more (c := 1) 41 e2 hrow (fun e => by cases e) hC.size (by have := HLL.out; simp; omega)
    simp only [List.length_cons, List.length_nil, Nat.zero_add] at hrun
    have hbl : Below W1.heap.size W1 w' := by
      rcases hgr with hgr | ⟨g', cur, hg', _, hgr⟩
      · exact hC.grown hgr hC.size (fun k e => by cases e)
      · exact hC.grown hgr hC.size (fun k e => by cases e; exact hg')
    dsimp only at hK ⊢
    simp only [e4] at hK ⊢
    refine step_run (.tmp 19) (.tmp 21) rfl rfl rfl hrun ?_
    obtain ⟨q, c, rfl, hr, hqc⟩ := ha.rowC (by simp)
    skip
    rw [List.length_append, show [o].length = 1 from rfl]
    exact hK _ _ hbl ⟨rfl, q, c, rfl, hr, hqc⟩ (fun j u hj h => inS_app hgr hj h)
  · refine step_mkC [5, 5] rfl rfl (fun _ _ => rfl) ?_
    intro x w5 b hb hC hd K hK
    obtain ⟨e5b, q, c, e5, hr, -⟩ := hd 5 (by simp)
    subst e5b
    have HV9 := Lib.hid (show Calls Try.prog 23 #[.slice q (l.length + 1) c] w5 (VPost (l ++ [o]) w5) by
      have hl2 : (l ++ [o]).length = l.length + 1 := by simp
      have := vis_more q (l ++ [o]) c w5 hr (by rw [hl2]; have := HLL.out; omega) HV.out
      rwa [hl2] at this)
    skip
    --  have := vis_more q (l ++ [o]) c w5 hr (by rw [List.length_append]; have := HLL.out; simp; omega) HV.out
    --  rwa [List.length_append, show [o].length = 1 from rfl] at this)
    clear hr
    dsimp only at hK ⊢
    simp only [e5] at hK ⊢
    go_simp
    refine HV9.out.mono ?_
    rintro e w6 ⟨q', c', rfl, hst, hbl⟩
    exact hK _ _ (up_call hC hbl) ⟨rfl, q', c', rfl, hst⟩ (fun j u _ h => inS_up hbl rfl h)
  · refine step_mkC [6] rfl rfl (fun _ _ => rfl) ?_
    intro x w5 b hb hC hd K hK
    obtain ⟨eb, q, c, ex, hst⟩ := hd 6 (by simp)
    subst eb
    dsimp only at hK ⊢
    simp only [ex] at hK ⊢
    go_simp
    exact hK _ _ hC ⟨rfl, q, c, rfl, hst⟩ (fun j u _ h => inS_up (Below.refl _ _) rfl h)
  · refine step_mkC [7] rfl rfl (fun _ _ => rfl) ?_
    intro x w5 b hb hC hd K hK
    obtain ⟨eb, q, c, ex, hst⟩ := hd 7 (by simp)
    subst eb
    dsimp only at hK ⊢
    simp only [ex] at hK ⊢
    go_simp
    exact hK _ _ hC ⟨rfl, q, c, rfl, hst⟩ (fun j u _ h => inS_up (Below.refl _ _) rfl h)
  · refine step_mkC [7] rfl rfl (fun _ _ => rfl) ?_
    intro x w5 b hb hC hd K hK
    obtain ⟨eb, q, c, ex, hst⟩ := hd 7 (by simp)
    subst eb
    dsimp only at hK ⊢
    simp only [ex] at hK ⊢
    go_simp
    exact hK _ _ hC rfl (fun j u _ h => inS_up (Below.refl _ _) rfl h)
  · refine step_mkC [] rfl rfl (fun _ _ => rfl) ?_
    intro x w5 b hb hC hd K hK
    dsimp only at hK ⊢
    go_simp
    exact hK _ _ (up_alloc hC _) ⟨_, rfl, hC.size, heap_alloc_new _ _⟩ (fun j u _ h => inS_up (up_alloc (Below.refl _ _) _) rfl h)
  · refine step_mkC [8, 6, 0, 1, 2, 3, 4, 5, 6, 7, 8, 10] rfl rfl (fun _ _ => rfl) ?_
    intro x w5 b hb hC hd K hK
    obtain ⟨eb, q, c, ex, hst⟩ := hd 8 (by simp)
    subst eb
    dsimp only at hK ⊢
    simp only [ex] at hK ⊢
    go_simp
    exact hK _ _ hC ⟨rfl, q, c, rfl, hst⟩ (fun j u _ h => inS_up (Below.refl _ _) rfl h)
  · refine tail_mkC rfl ?_
    intro x w5 hC hd K hK
    have e9 : x 9 = _ := hd 9 (by omega)
    obtain ⟨-, q, c, e11, hst⟩ := hd 11 (by omega)
    obtain ⟨g, e10, hg, hcell⟩ := hd 10 (by omega)
    have hlt := (Array.getElem?_eq_some_iff.1 hcell).1
    have c0 : w5.cell? ⟨g, 0, none⟩ = some (.int .i64 0) := by simp [World.cell?, hcell]
    have c1 : w5.cell? ⟨g, 1, none⟩ = some (.int .i64 0) := by simp [World.cell?, hcell]
    have f0 : w5.frozen? ⟨g, 0, none⟩ = false := by simp [World.frozen?, hcell]
    have f1 : w5.frozen? ⟨g, 1, none⟩ = false := by simp [World.frozen?, hcell]
    dsimp only at hK ⊢
    simp only [e9, e10, e11] at hK ⊢
    go_simp
    have F5 : Flt w5 g 0 0 := ⟨c0, c1, f0, f1, hlt⟩
    have F6 := Lib.hid (F5.set2 (Sq.vC (l ++ [o])) (Sq.vI (l ++ [o])))
    have hb6 : Below W1.heap.size w5 ((w5.setCell ⟨g, 0, none⟩ (.int .i64 (Sq.vC (l ++ [o])))).setCell ⟨g, 1, none⟩ (.int .i64 (Sq.vI (l ++ [o])))) := by
      refine Below.setCell (Below.setCell (Below.refl _ _) ?_ _) ?_ _ <;> exact hg
    have ST6 := Lib.hid (sts_far hst hcell (.int .i64 (Sq.vC (l ++ [o]))) (.int .i64 (Sq.vI (l ++ [o]))))
    have B6 := Lib.hid (hC.trans hb6)
    clear hb6 F5 f0 f1 c0 c1 hcell hst hlt hC
    generalize (w5.setCell ⟨g, 0, none⟩ (.int .i64 (Sq.vC (l ++ [o])))).setCell ⟨g, 1, none⟩ (.int .i64 (Sq.vI (l ++ [o]))) = w6 at F6 ST6 B6 ⊢
    refine hK undef _ ?_
    clear hK
    refine hKK _ _ ?_
    clear hKK
    have BW := Lib.hid (B1.out.trans (B6.out.mono B1.out.size))
    have F1b := Lib.hid (F1.out.up B6.out)
    have O6 := Lib.hid (OB.out.up B6.out)
    have P6 := Lib.hid (HP1.out.mono B6.out)
    have S1 := Lib.hid (ST1.out.mono B6.out)
    obtain ⟨a0, -, -, -, -⟩ := F1b.out
    obtain ⟨b0, -, -, -, -⟩ := F6.out
    have o0 := O6.out.c0
    by_cases hv : Sq.vC l = 0
    case neg =>
      have g0 : (Sq.vC l != 0) = true := by rw [bne_iff_ne]; exact hv
      clear hv
      go_wp2_with fail
      refine (latest_any _).mono ?_
      rintro e w9 ⟨rfl, hb9⟩
      go_wp2_with fail
      go_returns
      exact ⟨rfl, up_call BW.out hb9⟩
    case pos =>
    have g0 : (Sq.vC l != 0) = false := by rw [hv]; rfl
    by_cases hv2 : Sq.vC (l ++ [o]) = 0
    case neg =>
      have g1 : (Sq.vC (l ++ [o]) != 0) = true := by rw [bne_iff_ne]; exact hv2
      clear hv hv2
      go_wp2_with fail
      refine (latest_any _).mono ?_
      rintro e w9 ⟨rfl, hb9⟩
      go_wp2_with fail
      go_returns
      exact ⟨rfl, up_call BW.out hb9⟩
    case pos =>
    have g1 : (Sq.vC (l ++ [o]) != 0) = false := by rw [hv2]; rfl
    cases hd : o.del with
    | true =>
      rw [hd] at o0
      clear hv hv2
      go_wp2_with fail
      refine (latest_any _).mono ?_
      rintro e w9 ⟨rfl, hb9⟩
      go_wp2_with fail
      go_returns
      exact ⟨rfl, up_call BW.out hb9⟩
    | false =>
    rw [hd] at o0
    have I1 := Lib.hid (Sq.vL_ins (Sq.val_of hv) (Sq.val_of hv2) hd)
    have I2 := Lib.hid (subS_of _ _ (Sq.vL_ins_sub (Sq.val_of hv) (Sq.val_of hv2) hd))
    have I3 := Lib.hid (Sq.fresh_ins (Sq.val_of hv) (Sq.val_of hv2) hd)
    have hl60 := Sq.vL_len l
    have HD := Lib.hid hd
    clear hv hv2 hd
    go_wp2_with fail
    go_loopw [9, 10] (fun d i wr => ∃ k : Nat, k ≤ l.length ∧ i = .int .i64 k ∧ d = .bool false ∧ Hid (Below w6.heap.size w6 wr)) (fun _ i _ => l.length - (intOf i).toNat)
    case atStart => exact ⟨0, Nat.zero_le _, rfl, rfl, Lib.hid (Below.refl _ _)⟩
    case round =>
      as_aux_lemma =>
      obtain ⟨k, hk, rfl, rfl, hB⟩ := hrel
      have b0' : (0 : Int) ≤ (k : Int) := by omega
      clear a0 b0 o0
      by_cases hlt : k < l.length
      · have b8 : (k : Int) < (l.length : Int) := by omega
        have h1 := decide_eq_true b8
        have h1' : decide (k < l.length) = true := decide_eq_true hlt
        have wk : IntKind.i64.wrap ((k : Int) + 1) = (k : Int) + 1 := IntWalk.i64_in _ (by omega)
        obtain ⟨bp, fp, rfl, hbp, hcc⟩ := (P6.out.mono hB.out).cell hlt
        obtain ⟨c0, c1, c2, c3, c4, c5, hgo⟩ := O6.out.up hB.out
        have FR := Lib.hid (I3.out _ (List.getElem_mem hlt))
        have HLT := Lib.hid hlt
        obtain ⟨x, hx⟩ : ∃ x, x = l[k]'hlt := ⟨_, rfl⟩
        rw [← hx] at hcc FR
        clear hx
        have x0 : wr.cell? ⟨bp, fp + k * 6, none⟩ = some (.bool x.del) := hcc 0 _ rfl
        have x1 : wr.cell? ⟨bp, fp + k * 6 + 1, none⟩ = some (.int .i64 x.rep) := hcc 1 _ rfl
        have x2 : wr.cell? ⟨bp, fp + k * 6 + 2, none⟩ = some (.int .i64 x.cnt) := hcc 2 _ rfl
        have x3 : wr.cell? ⟨bp, fp + k * 6 + 3, none⟩ = some (.int .i64 x.arep) := hcc 3 _ rfl
        have x4 : wr.cell? ⟨bp, fp + k * 6 + 4, none⟩ = some (.int .i64 x.acnt) := hcc 4 _ rfl
        have x5 : wr.cell? ⟨bp, fp + k * 6 + 5, none⟩ = some (.string x.line) := hcc 5 _ rfl
        clear hcc
        cases hxd : x.del with
        | false =>
          rw [hxd] at x0
          clear hxd
          go_wp2_with fail
          go_quiet (fail)
          go_wp2_with fail
          go_roundw
          case rel => exact ⟨k + 1, HLT.out, by go_num, rfl, Lib.hid (below_drewN hB.out _)⟩
          case measure => simp [intOf]; omega
        | true =>
          have SE := Lib.hid (fun W => sameElement_any x o W)
          rw [decide_eq_false (FR.out hxd)] at SE
          rw [hxd] at x0
          have y0 := over_cell hbp x0
          have y1 := over_cell hbp x1
          have y2 := over_cell hbp x2
          have y3 := over_cell hbp x3
          have y4 := over_cell hbp x4
          have y5 := over_cell hbp x5
          have z0 := over_cell hgo c0
          have z1 := over_cell hgo c1
          have z2 := over_cell hgo c2
          have z3 := over_cell hgo c3
          have z4 := over_cell hgo c4
          have z5 := over_cell hgo c5
          unfold Sq.O.v at SE
          rw [hxd] at SE
          clear hxd x0 x1 x2 x3 x4 x5 c0 c1 c2 c3 c4 c5
          go_wp2_with fail
          refine over_lit (by kernel_rfl) (by kernel_rfl) ?_
          repeat (go_big_quiet_step ((go_at_call 32; exact over_call (SE.out _))))
          refine wpQuiet_nil ?_
          rintro _ ⟨m, rfl⟩
          have BO := Lib.hid (hB.out.trans ((over_below wr m).mono hB.out.size))
          clear y0 y1 y2 y3 y4 y5 z0 z1 z2 z3 z4 z5
          go_wp2_with fail
          go_roundw
          case rel => exact ⟨k + 1, HLT.out, by go_num, rfl, BO⟩
          case measure => simp [intOf]; omega
      · have h1 : decide ((k : Int) < (l.length : Int)) = false := decide_eq_false (by omega)
        have h1' : decide (k < l.length) = false := decide_eq_false hlt
        have FW := Lib.hid (follows_any p1 q (Sq.vL l) (Sq.vL (l ++ [o])) c1' c wr (S1.out.mono hB.out) (ST6.out.mono hB.out))
        rw [I2.out] at FW
        rw [I1.out] at FW ⊢
        generalize (Sq.vL l).length = n1 at FW hl60 ⊢
        have wn : IntKind.i64.wrap ((n1 : Int) + 1) = (n1 : Int) + 1 := IntWalk.i64_in _ (by omega)
        have gn : (((n1 + 1 : Nat) : Int) == (n1 : Int) + 1) = true := by rw [beq_iff_eq]; omega
        have gn2 : ((n1 : Int) + 1 == (n1 : Int) + 1) = true := by rw [beq_iff_eq]
        go_wp2_with fail
        refine FW.out.mono ?_
        rintro e w8 ⟨rfl, t, rfl⟩
        have BT := Lib.hid (below_drewN (BW.out.trans (hB.out.mono BW.out.size)) t)
        go_wp2_with fail
        refine (latest_any _).mono ?_
        rintro e w9 ⟨rfl, hb9⟩
        go_wp2_with fail
        go_returns
        exact ⟨rfl, up_call BT.out hb9⟩
end Go.Proofs.Ytidncnhhjfdifaa
