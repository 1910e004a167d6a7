
/-
  The law MultivalueCovers, walked (where the registers are not longer than a million values together).
-/
import Derived.Test.YtidncnhhjfdifaaMvR
import Derived.Test.YtidncnhhjfdifaaMvO
namespace Go.Proofs.Ytidncnhhjfdifaa
open Go.RowKit
set_option maxRecDepth 4000
set_option maxRecDepth 100000 in
set_option maxHeartbeats 4000000 in
theorem covers_walk (pa : Option Addr) (ra : List Mv.R) (ca : Nat) (pb : Option Addr) (rb : List Mv.R) (cb : Nat) (i : Int) (w : World) (hp : Vs w pa ra) (hca : pa = none → ca = 0) (hl : ra.length ≤ 4398046510976) (hlc : ra.length ≤ ca)
    (hq : Vs w pb rb) (hcb : pb = none → cb = 0) (hl2 : rb.length ≤ 4398046510976) (hlc2 : rb.length ≤ cb) (_ : (Lit.int .i64 i).wf = true) (hsm : ra.length + rb.length ≤ 1048576) :
    Calls Try.prog 7 #[.slice pa ra.length ca, .slice pb rb.length cb, .int .i64 i] w (TPost w) := by
  have HP := Lib.hid hp
  have HQ := Lib.hid hq
  have HCA := Lib.hid hca
  have HCB := Lib.hid hcb
  have HSM := Lib.hid hsm
  have M1 := Lib.hid (mvMerge_any pa pb ra rb ca cb w hp hq hlc hlc2 (by omega) (by omega))
  have MC := Lib.hid (fun h => (Mv.mg_iff (Mv.vs ra) (Mv.vs rb)).1 h)
  clear hp hq hca hcb hlc hlc2 hl hl2 hsm
  go_enter Try.func7, Try.ntmps7
  go_wp2_with fail
  refine M1.out.mono ?_
  rintro e w1 ⟨qx, xs, cx, rfl, hvs, hxs, -, -, hb1⟩
  generalize Mv.mC (Mv.vs ra) (Mv.vs rb) = c at MC ⊢
  generalize Mv.mI (Mv.vs ra) (Mv.vs rb) = j
  have u1 := up_alloc (Below.refl w1.heap.size w1) (.cells #[.int .i64 c, .int .i64 j] 24 (0, 0))
  have F1 := Lib.hid (Flt.new w1 c j 24)
  have V1 := Lib.hid (hvs.mono u1)
  have B1 := Lib.hid (up_call hb1 u1)
  have XS := Lib.hid hxs
  have z1 : (w1.alloc (.cells #[.int .i64 c, .int .i64 j] 24 (0, 0))).heap.size = w1.heap.size + 1 := by simp
  clear M1 hvs hxs hb1 u1
  generalize hW1 : w1.alloc (.cells #[.int .i64 c, .int .i64 j] 24 (0, 0)) = W1 at F1 V1 B1 z1
  have E0 := Lib.hid (ownE_emptyG rwE W1 (w1.heap.size + 1) W1.heap.size z1.symm (Nat.le_refl _))
  have U2 := up_alloc (Below.refl W1.heap.size W1) (.cells #[] 35 (0, 0))
  have hbz := U2.size
  have P2 := Lib.hid (HP.out.mono (B1.out.trans (U2.mono B1.out.size)))
  have UH := Lib.hid U2
  clear U2
  have HW1 := Lib.hid hW1
  clear hW1
  by_cases hc : c = 0
  case neg =>
    have g0 : (c != 0) = true := by rw [bne_iff_ne]; exact hc
    clear hc
    go_wp2_with (at_builtin; first
      | (refine wp_appN rwE rfl (.tmp 19) (.tmp 20) rfl W1.heap.size (.slice (some ⟨w1.heap.size + 1, 0, none⟩) 0 0) [] ra pa ca rfl (by rw [HW1.out]; exact E0.out) rfl (by rw [HW1.out]; exact P2.out.row) HCA.out (by simp [rwE]; have := HSM.out; omega) (by unfold maxLen; simp; have := HSM.out; omega) (by rw [HW1.out]; exact hbz) ?_
         intro v3 w3 own3 gr3
         rw [HW1.out] at gr3
         have b3 := UH.out.grown gr3 UH.out.size (fun kb hk => (ownE_block E0.out kb hk).1)
         have OWN3 := Lib.hid own3
         have B3 := Lib.hid b3
         clear own3 gr3 b3)
      | (refine wp_appN rwE rfl (.tmp 21) (.tmp 22) rfl W1.heap.size v3 ra rb pb cb rfl OWN3.out rfl (HQ.out.mono (B1.out.trans (B3.out.mono B1.out.size))).row HCB.out (by simp [rwE]; have := HSM.out; omega) (by unfold maxLen; have := HSM.out; omega) B3.out.size ?_
         intro v4 w4 own4 gr4
         have b4 := B3.out.grown gr4 B3.out.size (fun kb hk => (ownE_block OWN3.out kb hk).1)
         obtain ⟨q4, c4, rfl, hr4, -, -, -⟩ := row_of_own own4
         have R4 := Lib.hid hr4
         have B4 := Lib.hid b4
         have a0 := (F1.out.up b4).c0
         have wl : ((List.length (ra ++ rb) : Nat) : Int) = (List.length ra : Int) + (List.length rb : Int) := by simp
         clear own4 gr4 b4 hr4))
    refine (first_any _).mono ?_
    rintro e w9 ⟨rfl, hb9⟩
    go_wp2_with fail
    go_returns
    exact ⟨rfl, up_call (B1.out.trans (B4.out.mono B1.out.size)) hb9⟩
  case pos =>
  have g0 : (c != 0) = false := by rw [hc]; rfl
  have MG := Lib.hid (MC.out hc)
  clear hc MC
  by_cases hi : i < 0
  case pos =>
    have g1 : decide (i < 0) = true := decide_eq_true hi
    clear hi
    go_wp2_with (at_builtin; first
      | (refine wp_appN rwE rfl (.tmp 19) (.tmp 20) rfl W1.heap.size (.slice (some ⟨w1.heap.size + 1, 0, none⟩) 0 0) [] ra pa ca rfl (by rw [HW1.out]; exact E0.out) rfl (by rw [HW1.out]; exact P2.out.row) HCA.out (by simp [rwE]; have := HSM.out; omega) (by unfold maxLen; simp; have := HSM.out; omega) (by rw [HW1.out]; exact hbz) ?_
         intro v3 w3 own3 gr3
         rw [HW1.out] at gr3
         have b3 := UH.out.grown gr3 UH.out.size (fun kb hk => (ownE_block E0.out kb hk).1)
         have OWN3 := Lib.hid own3
         have B3 := Lib.hid b3
         clear own3 gr3 b3)
      | (refine wp_appN rwE rfl (.tmp 21) (.tmp 22) rfl W1.heap.size v3 ra rb pb cb rfl OWN3.out rfl (HQ.out.mono (B1.out.trans (B3.out.mono B1.out.size))).row HCB.out (by simp [rwE]; have := HSM.out; omega) (by unfold maxLen; have := HSM.out; omega) B3.out.size ?_
         intro v4 w4 own4 gr4
         have b4 := B3.out.grown gr4 B3.out.size (fun kb hk => (ownE_block OWN3.out kb hk).1)
         obtain ⟨q4, c4, rfl, hr4, -, -, -⟩ := row_of_own own4
         have R4 := Lib.hid hr4
         have B4 := Lib.hid b4
         have a0 := (F1.out.up b4).c0
         have wl : ((List.length (ra ++ rb) : Nat) : Int) = (List.length ra : Int) + (List.length rb : Int) := by simp
         clear own4 gr4 b4 hr4))
    refine (first_any _).mono ?_
    rintro e w9 ⟨rfl, hb9⟩
    go_wp2_with fail
    go_returns
    exact ⟨rfl, up_call (B1.out.trans (B4.out.mono B1.out.size)) hb9⟩
  case neg =>
  have g1 : decide (i < 0) = false := decide_eq_false hi
  by_cases hj : ((ra.length : Int) + (rb.length : Int)) ≤ i
  case pos =>
    have g2 : decide (((ra.length : Int) + (rb.length : Int)) ≤ i) = true := decide_eq_true hj
    clear hi hj
    go_wp2_with (at_builtin; first
      | (refine wp_appN rwE rfl (.tmp 19) (.tmp 20) rfl W1.heap.size (.slice (some ⟨w1.heap.size + 1, 0, none⟩) 0 0) [] ra pa ca rfl (by rw [HW1.out]; exact E0.out) rfl (by rw [HW1.out]; exact P2.out.row) HCA.out (by simp [rwE]; have := HSM.out; omega) (by unfold maxLen; simp; have := HSM.out; omega) (by rw [HW1.out]; exact hbz) ?_
         intro v3 w3 own3 gr3
         rw [HW1.out] at gr3
         have b3 := UH.out.grown gr3 UH.out.size (fun kb hk => (ownE_block E0.out kb hk).1)
         have OWN3 := Lib.hid own3
         have B3 := Lib.hid b3
         clear own3 gr3 b3)
      | (refine wp_appN rwE rfl (.tmp 21) (.tmp 22) rfl W1.heap.size v3 ra rb pb cb rfl OWN3.out rfl (HQ.out.mono (B1.out.trans (B3.out.mono B1.out.size))).row HCB.out (by simp [rwE]; have := HSM.out; omega) (by unfold maxLen; have := HSM.out; omega) B3.out.size ?_
         intro v4 w4 own4 gr4
         have b4 := B3.out.grown gr4 B3.out.size (fun kb hk => (ownE_block OWN3.out kb hk).1)
         obtain ⟨q4, c4, rfl, hr4, -, -, -⟩ := row_of_own own4
         have R4 := Lib.hid hr4
         have B4 := Lib.hid b4
         have a0 := (F1.out.up b4).c0
         have wl : ((List.length (ra ++ rb) : Nat) : Int) = (List.length ra : Int) + (List.length rb : Int) := by simp
         clear own4 gr4 b4 hr4))
    refine (first_any _).mono ?_
    rintro e w9 ⟨rfl, hb9⟩
    go_wp2_with fail
    go_returns
    exact ⟨rfl, up_call (B1.out.trans (B4.out.mono B1.out.size)) hb9⟩
  case neg =>
  have g2 : decide (((ra.length : Int) + (rb.length : Int)) ≤ i) = false := decide_eq_false hj
  obtain ⟨n, rfl⟩ := Int.eq_ofNat_of_zero_le (Int.not_lt.1 hi)
  have hn : n < (ra ++ rb).length := by rw [List.length_append]; omega
  obtain ⟨eR, hE⟩ : ∃ x, x = (ra ++ rb)[n]'hn := ⟨_, rfl⟩
  have HIX : Hid ((ra ++ rb)[n]? = some eR) := Lib.hid (by rw [hE]; exact List.getElem?_eq_getElem hn)
  have hmE : eR.v ∈ Mv.vs ra ∨ eR.v ∈ Mv.vs rb := by
    have hm := List.getElem_mem hn
    rw [← hE] at hm
    rcases List.mem_append.1 hm with hm | hm
    · exact .inl (List.mem_map_of_mem hm)
    · exact .inr (List.mem_map_of_mem hm)
  have CV := Lib.hid (MG.out.covers eR.v hmE)
  have E6 := Lib.hid (show eR.vec.length = 6 from (MG.out.okv eR.v hmE).len)
  have n1 : (n : Int) < (ra.length : Int) + (rb.length : Int) := by omega
  have n0 : (0 : Int) ≤ (n : Int) := by omega
  have X6 : Hid (∀ r ∈ xs, r.vec.length = 6) := Lib.hid (fun r hr => by
    have hm : r.v ∈ Mv.mL (Mv.vs ra) (Mv.vs rb) := by rw [← XS.out]; exact List.mem_map_of_mem hr
    exact (MG.out.val.each _ hm).len)
  have XL := mL_small XS.out
  clear hi hj hmE hE hn
  go_wp2_with (at_builtin; first
    | (refine wp_appN rwE rfl (.tmp 19) (.tmp 20) rfl W1.heap.size (.slice (some ⟨w1.heap.size + 1, 0, none⟩) 0 0) [] ra pa ca rfl (by rw [HW1.out]; exact E0.out) rfl (by rw [HW1.out]; exact P2.out.row) HCA.out (by simp [rwE]; have := HSM.out; omega) (by unfold maxLen; simp; have := HSM.out; omega) (by rw [HW1.out]; exact hbz) ?_
       intro v3 w3 own3 gr3
       rw [HW1.out] at gr3
       have b3 := UH.out.grown gr3 UH.out.size (fun kb hk => (ownE_block E0.out kb hk).1)
       have OWN3 := Lib.hid own3
       have B3 := Lib.hid b3
       clear own3 gr3 b3)
    | (refine wp_appN rwE rfl (.tmp 21) (.tmp 22) rfl W1.heap.size v3 ra rb pb cb rfl OWN3.out rfl (HQ.out.mono (B1.out.trans (B3.out.mono B1.out.size))).row HCB.out (by simp [rwE]; have := HSM.out; omega) (by unfold maxLen; have := HSM.out; omega) B3.out.size ?_
       intro v4 w4 own4 gr4
       have b4 := B3.out.grown gr4 B3.out.size (fun kb hk => (ownE_block OWN3.out kb hk).1)
       obtain ⟨q4, c4, rfl, hr4, -, -, -⟩ := row_of_own own4
       have R4 := Lib.hid hr4
       have B4 := Lib.hid b4
       have a0 := (F1.out.up b4).c0
       have wl : ((List.length (ra ++ rb) : Nat) : Int) = (List.length ra : Int) + (List.length rb : Int) := by simp
       clear own4 gr4 b4 hr4))
  have BW := Lib.hid (B1.out.trans (B4.out.mono B1.out.size))
  have VE : Vs w4 q4 (ra ++ rb) := ⟨R4.out, fun r hr => by
    rcases List.mem_append.1 hr with hr | hr
    · exact (HP.out.vec r hr).mono BW.out
    · exact (HQ.out.vec r hr).mono BW.out⟩
  have VX := Lib.hid (V1.out.mono B4.out)
  have VE4 := Lib.hid VE
  clear VE a0 wl V1 R4 P2 E0
  obtain ⟨hn2, eE⟩ := List.getElem?_eq_some_iff.1 HIX.out
  have VC := VE4.out.cell hn2
  rw [eE] at VC
  obtain ⟨b4, o4, rfl, hb4, -, d1, hrE⟩ := VC
  have RE := Lib.hid hrE
  clear hrE eE hn2
  obtain ⟨e0, ep, ec, ev⟩ := eR
  dsimp only at d1 RE E6
  go_loopw [10] (fun iv wr => ∃ k m : Nat, k ≤ xs.length ∧ iv = .int .i64 k ∧ wr = w4.drewN m ∧ Hid (∀ j (hj : j < xs.length), j < k → Mv.cov xs[j].vec ev = false)) (fun iv _ => xs.length - (intOf iv).toNat)
  case atStart => exact ⟨0, 0, Nat.zero_le _, rfl, rfl, Lib.hid (fun j _ h => absurd h (Nat.not_lt_zero j))⟩
  case round =>
    as_aux_lemma =>
    obtain ⟨k, m, hk, rfl, hw, hA⟩ := hrel
    have HW := Lib.hid hw
    have VK : Vs wr qx xs := by rw [hw]; exact VX.out.drewN m
    have d2 : wr.cell? ⟨b4, o4 + n * 2 + 1, none⟩ = some (.slice ep ev.length ec) := by rw [hw, World.cell?_drewN]; exact d1
    have RK := Lib.hid (show Row nE wr ep ev by rw [hw]; exact RE.out.drewN m)
    have BK := Lib.hid (show Below w.heap.size w wr by rw [hw]; exact below_drewN BW.out m)
    clear hw d1
    have b0 : (0 : Int) ≤ (k : Int) := by omega
    by_cases hlt : k < xs.length
    · have g1' : decide (k < xs.length) = true := decide_eq_true hlt
      have b8 : (k : Int) < (xs.length : Int) := by omega
      have wk : IntKind.i64.wrap ((k : Int) + 1) = (k : Int) + 1 := IntWalk.i64_in _ (by omega)
      obtain ⟨bx, ox, rfl, hbx, -, c1, hrx⟩ := VK.cell hlt
      have NX := Lib.hid (fun h => any_next (P := fun r : Mv.R => Mv.cov r.vec ev) hlt hA.out h)
      have hx6 := X6.out _ (List.getElem_mem hlt)
      have HLT := Lib.hid hlt
      obtain ⟨⟨x0, xp, xc, xv⟩, hx⟩ : ∃ x, x = xs[k]'hlt := ⟨_, rfl⟩
      rw [← hx] at c1 hrx NX hx6
      dsimp only at c1 hrx NX hx6
      have CR := Lib.hid (fun (t : Nat) => relation_any xp ep xv ev xc ec _ (hrx.drewN t) (RK.out.drewN t) (by rw [hx6, E6.out]) (by rw [E6.out]; decide))
      clear hx hrx hx6 VK
      cases hcv : Mv.cov xv ev with
      | true =>
        rw [hcv] at CR
        clear hcv NX
        go_wp2_with fail
        go_quiet ((go_at_call 22; exact quiet_same (CR.out _)))
        go_wp2_with fail
        refine (first_any _).mono ?_
        rintro e w9 ⟨rfl, hb9⟩
        go_wp2_with fail
        go_ret
        exact ⟨rfl, up_call (below_drewN BK.out _) hb9⟩
      | false =>
        rw [hcv] at CR
        have N2 := Lib.hid (NX.out hcv)
        clear hcv NX
        go_wp2_with fail
        go_quiet ((go_at_call 22; exact quiet_same (CR.out _)))
        go_wp2_with fail
        go_roundw
        case rel => exact ⟨k + 1, _, HLT.out, by go_num, by rw [HW.out, World.drewN_drewN], N2⟩
        case measure => simp [intOf]; omega
    · exfalso
      obtain ⟨u, hu, hc⟩ := CV.out
      rw [← XS.out] at hu
      obtain ⟨r, hr, rfl⟩ := List.mem_map.1 hu
      obtain ⟨j, hj, rfl⟩ := List.mem_iff_getElem.1 hr
      have := hA.out j hj (by omega)
      rw [show Mv.cov xs[j].vec ev = true from hc] at this
      cases this
end Go.Proofs.Ytidncnhhjfdifaa
