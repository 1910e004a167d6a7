
/-
  Package multivalue: Validate, walked.
-/
import Derived.Test.YtidncnhhjfdifaaMvC
namespace Go.Proofs.Ytidncnhhjfdifaa
open Go.RowKit
set_option maxRecDepth 4000

/-- the world behind the boxing of a value -/
def boxV (w : World) (r : Mv.R) : World := w.alloc (.cells #[.int .i64 r.val, .slice r.p r.vec.length r.cap] 35 (0, 0))
theorem boxV_up (w : World) (r : Mv.R) : Below w.heap.size w (boxV w r) := up_alloc (Below.refl _ _) _
/-- a block that holds a value -/
structure VB (w : World) (g : Nat) (r : Mv.R) : Prop where
  c0 : w.cell? ⟨g, 0, none⟩ = some (.int .i64 r.val)
  c1 : w.cell? ⟨g, 1, none⟩ = some (.slice r.p r.vec.length r.cap)
  lt : g < w.heap.size
theorem VB.new (w : World) (r : Mv.R) : VB (boxV w r) w.heap.size r := by
  unfold boxV
  refine ⟨?_, ?_, by rw [World.size_alloc]; omega⟩
  all_goals rw [World.cell?_alloc_mark]; rfl
theorem VB.up {w w' : World} {g : Nat} {r : Mv.R} (h : VB w g r) (hb : Below w.heap.size w w') : VB w' g r :=
  ⟨(hb.cell (p := ⟨g, 0, none⟩) h.lt).trans h.c0, (hb.cell (p := ⟨g, 1, none⟩) h.lt).trans h.c1, Nat.lt_of_lt_of_le h.lt hb.size⟩

theorem inOrd_nil (v : Mv.V) : Mv.inOrd v [] = true := rfl
theorem inOrd_last {rs : List Mv.R} {k : Nat} (h : k < rs.length) (hk : k + 1 = rs.length) (v : Mv.V) : Mv.inOrd v (Mv.vs rs) = decide (Mv.cmpL rs[k].vec v.vec < 0) := by
  have e : (Mv.vs rs).getLast? = some rs[k].v := by
    rw [List.getLast?_eq_getElem?, Mv.vs_len, ← hk, Nat.add_sub_cancel]
    unfold Mv.vs
    rw [List.getElem?_map, List.getElem?_eq_getElem h]; rfl
  unfold Mv.inOrd
  rw [e]; rfl
set_option maxHeartbeats 2000000 in
theorem inOrder_any (v : Mv.R) (p : Option Addr) (rs : List Mv.R) (cap : Nat) (w : World) (hv : Row nE w v.p v.vec) (hp : Vs w p rs) (hl : rs.length ≤ 100) (hvl : v.vec.length ≤ 100) (hrl : ∀ r ∈ rs, r.vec.length ≤ 100) :
    Calls Try.prog 76 #[.agg #[.int .i64 v.val, .slice v.p v.vec.length v.cap], .slice p rs.length cap] w (BPost (.bool (Mv.inOrd v.v (Mv.vs rs))) w) := by
  have up0 := boxV_up w v
  have VV := Lib.hid (VB.new w v)
  have HP := Lib.hid (hp.mono up0)
  have HV := Lib.hid (hv.mono up0)
  have HRL := Lib.hid hrl
  clear hp hv hrl
  obtain ⟨v0, vp, vc, vv⟩ := v
  unfold boxV at up0 VV HP HV
  dsimp only at up0 VV HP HV hvl ⊢
  have U := Lib.hid up0
  clear up0
  obtain ⟨c0, c1, -⟩ := VV.out
  dsimp only at c0 c1
  generalize hn : rs.length = n at hl ⊢
  have HN := Lib.hid hn
  clear hn
  generalize hB : Mv.inOrd (Mv.R.v ⟨v0, vp, vc, vv⟩) (Mv.vs rs) = B
  have HB := Lib.hid hB
  clear hB
  cases n with
  | zero =>
    have E : Hid (B = true) := Lib.hid (by rw [← HB.out, List.length_eq_zero_iff.1 HN.out]; rfl)
    go_enter Try.func76, Try.ntmps76
    go_wp2_with fail
    go_quiet (fail)
    go_wp2_with fail
    go_ret
    exact ⟨by rw [E.out]; rfl, below_drewN U.out _⟩
  | succ k =>
    have hk : k < rs.length := by rw [HN.out]; omega
    have E := Lib.hid (HB.out.symm.trans (inOrd_last hk HN.out.symm _))
    obtain ⟨b, off, rfl, -, -, d1, hr⟩ := HP.out.cell hk
    have hrl := HRL.out _ (List.getElem_mem hk)
    obtain ⟨⟨x, xp, xc, xv⟩, hx⟩ : ∃ x, x = rs[k]'hk := ⟨_, rfl⟩
    rw [← hx] at d1 hr hrl E
    dsimp only at d1 hr hrl E
    replace E : Hid (B = decide (Mv.cmpL xv vv < 0)) := E
    have CM := Lib.hid (fun m => cmpL_any xp vp xv vv xc vc _ (hr.drewN m) (HV.out.drewN m) hrl)
    have wk : IntKind.i64.wrap (((k + 1 : Nat) : Int) - 1) = (k : Int) := by rw [show ((k + 1 : Nat) : Int) - 1 = (k : Int) by omega]; exact IntWalk.i64_in _ (by omega)
    have wk2 : IntKind.i64.wrap ((k : Int) + 1 - 1) = (k : Int) := by rw [show (k : Int) + 1 - 1 = (k : Int) by omega]; exact IntWalk.i64_in _ (by omega)
    have g1 : (((k + 1 : Nat) : Int) == 0) = false := by rw [beq_eq_false_iff_ne]; omega
    have g2 : ((k : Int) + 1 == 0) = false := by rw [beq_eq_false_iff_ne]; omega
    have b1 : (0 : Int) ≤ (k : Int) := by omega
    have b2 : (k : Int) < (k : Int) + 1 := by omega
    clear hx hr hrl hk
    generalize hc : Mv.cmpL xv vv = c at CM E
    clear hc
    go_enter Try.func76, Try.ntmps76
    go_wp2_with fail
    go_quiet ((go_at_call 46; exact SPost.q (CM.out _)))
    go_wp2_with fail
    go_ret
    exact ⟨by rw [E.out]; rfl, below_drewN U.out _⟩
theorem coClo_any (g : Nat) (v e : Mv.R) (w : World) (hb : VB w g v) (hv : Row nE w v.p v.vec) (he : Row nE w e.p e.vec) (hl : v.vec.length ≤ e.vec.length) (hel : e.vec.length ≤ 100) :
    Calls Try.prog 77 (#[.agg #[.int .i64 e.val, .slice e.p e.vec.length e.cap]] ++ #[.pointer (some ⟨g, 0, none⟩)]) w (BPost (.bool (Mv.cov v.vec e.vec)) w) := by
  have up0 := boxV_up w e
  have V1 := VB.new w e
  have V2 := hb.up up0
  have CL := Lib.hid (covers_any v.p e.p v.vec e.vec v.cap e.cap _ (hv.mono up0) (he.mono up0) hl hel)
  clear hb hv he
  obtain ⟨e0, ep, ec, ev⟩ := e
  obtain ⟨v0, vp, vc, vv⟩ := v
  unfold boxV at up0 V1 V2 CL
  dsimp only at up0 V1 V2 CL hl hel ⊢
  obtain ⟨c0, c1, -⟩ := V1
  obtain ⟨d0, d1, -⟩ := V2
  dsimp only at c0 c1 d0 d1
  clear hl
  show Calls Try.prog 77 #[.agg #[.int .i64 e0, .slice ep ev.length ec], .pointer (some ⟨g, 0, none⟩)] w _
  go_enter Try.func77, Try.ntmps77
  go_wp2_with fail
  refine CL.out.mono ?_
  rintro e w2 ⟨rfl, rfl⟩
  go_wp2_with fail
  go_ret
  exact ⟨rfl, up0⟩
theorem vs_any (rs : List Mv.R) (P : Mv.V → Bool) : (Mv.vs rs).any P = rs.any (fun r => P r.v) := by unfold Mv.vs; rw [List.any_map]; rfl
set_option maxRecDepth 100000 in
set_option maxHeartbeats 4000000 in
theorem mvCode_any (v : Mv.R) (p : Option Addr) (rs : List Mv.R) (cap : Nat) (w : World) (hv : Row nE w v.p v.vec) (hp : Vs w p rs) (hl : rs.length ≤ 100) (hrl : ∀ r ∈ rs, r.vec.length = 6) :
    Calls Try.prog 48 #[.agg #[.int .i64 v.val, .slice v.p v.vec.length v.cap], .slice p rs.length cap] w (BPost (.int .i64 (Mv.cd v.v (Mv.vs rs))) w) := by
  have up0 := boxV_up w v
  have VV := Lib.hid (VB.new w v)
  have HP := Lib.hid (hp.mono up0)
  have HV := Lib.hid (hv.mono up0)
  have HRL := Lib.hid hrl
  clear hp hv hrl
  generalize hB : Mv.cd v.v (Mv.vs rs) = B
  unfold Mv.cd at hB
  obtain ⟨v0, vp, vc, vv⟩ := v
  rw [show (Mv.R.v ⟨v0, vp, vc, vv⟩).val = v0 from rfl, show (Mv.R.v ⟨v0, vp, vc, vv⟩).vec = vv from rfl] at hB
  unfold boxV at up0 VV HP HV
  dsimp only at up0 VV HP HV ⊢
  have VU := VV.out
  obtain ⟨c0, c1, -⟩ := VU
  dsimp only at c0 c1
  have U := Lib.hid up0
  have C1 := Lib.hid (fun w => out_any v0 w)
  cases h1 : Mv.out v0 with
  | true =>
    rw [h1, if_pos rfl] at hB
    subst hB
    rw [h1] at C1
    clear up0
    go_enter Try.func48, Try.ntmps48
    go_wp2_with fail
    refine (C1.out _).mono ?_
    rintro e w2 ⟨rfl, rfl⟩
    go_wp2_with fail
    go_ret
    exact ⟨rfl, U.out⟩
  | false =>
  rw [h1, if_neg (by decide)] at hB
  rw [h1] at C1
  by_cases h2 : vv.length = 6
  case neg =>
    rw [if_pos h2] at hB
    subst hB
    have g1 : ((vv.length : Int) != 6) = true := by rw [bne_iff_ne]; omega
    clear up0 h2
    go_enter Try.func48, Try.ntmps48
    go_wp2_with fail
    refine (C1.out _).mono ?_
    rintro e w2 ⟨rfl, rfl⟩
    go_wp2_with fail
    go_ret
    exact ⟨rfl, U.out⟩
  rw [if_neg (by simpa using h2)] at hB
  have C3 := Lib.hid (hasO_any vp vv vc _ HV.out (by omega))
  have C4 := Lib.hid (mx_any vp vv vc _ HV.out (by omega) (by omega))
  have C5 := Lib.hid (inOrder_any ⟨v0, vp, vc, vv⟩ p rs cap _ HV.out HP.out hl (by show vv.length ≤ 100; omega) (fun r hr => by rw [HRL.out r hr]; decide))
  have C6 := Lib.hid (fun (W : World) (hW : Below (w.alloc (.cells #[.int .i64 v0, .slice vp vv.length vc] 35 (0, 0))).heap.size (w.alloc (.cells #[.int .i64 v0, .slice vp vv.length vc] 35 (0, 0))) W) =>
    hasV_any 77 #[.pointer (some ⟨w.heap.size, 0, none⟩)] (fun r => Mv.cov vv r.vec) p rs cap W (HP.out.mono hW) hl (enters_of Try.func77 (by kernel_rfl) rfl)
    (fun r hr W2 hW2 => coClo_any w.heap.size ⟨v0, vp, vc, vv⟩ r W2 ((VV.out.up hW).up hW2) ((HV.out.mono hW).mono hW2) (((HP.out.mono hW).vec r hr).mono hW2) (by show vv.length ≤ _; rw [HRL.out r hr]; omega) (by rw [HRL.out r hr]; decide)))
  rw [vs_any] at hB
  have hB6 : (rs.any fun r => Mv.cov vv r.v.vec) = rs.any (fun r => Mv.cov vv r.vec) := rfl
  rw [hB6] at hB
  generalize (rs.any fun r => Mv.cov vv r.vec) = x6 at hB C6
  generalize Mv.inOrd (Mv.R.v ⟨v0, vp, vc, vv⟩) (Mv.vs rs) = x5 at hB C5
  generalize Mv.mxL vv = x4 at hB C4
  generalize vv.any Mv.out = x3 at hB C3
  have g1 : ((vv.length : Int) != 6) = false := by simp; omega
  have H2 := Lib.hid h2
  clear h2 up0
  dsimp only at C5
  cases x3 with
  | true =>
    rw [if_pos rfl] at hB
    subst hB
    go_enter Try.func48, Try.ntmps48
    go_wp2_with (first | (go_at_call 36; refine (C1.out _).mono ?_; rintro e w2 ⟨rfl, rfl⟩) | (go_at_call 74; refine C3.out.mono ?_; rintro e w2 ⟨rfl, rfl⟩))
    go_ret
    exact ⟨rfl, U.out⟩
  | false =>
  rw [if_neg (by decide)] at hB
  by_cases h4 : x4 = 0
  · rw [if_pos h4] at hB
    subst hB
    have g4 : (x4 == 0) = true := by rw [beq_iff_eq]; exact h4
    clear h4
    go_enter Try.func48, Try.ntmps48
    go_wp2_with (first | (go_at_call 36; refine (C1.out _).mono ?_; rintro e w2 ⟨rfl, rfl⟩) | (go_at_call 74; refine C3.out.mono ?_; rintro e w2 ⟨rfl, rfl⟩) | (go_at_call 75; refine C4.out.mono ?_; rintro e w2 ⟨rfl, rfl⟩))
    go_ret
    exact ⟨rfl, U.out⟩
  rw [if_neg h4] at hB
  have g4 : (x4 == 0) = false := by rw [beq_eq_false_iff_ne]; exact h4
  clear h4
  cases x5 with
  | false =>
    rw [if_pos rfl] at hB
    subst hB
    go_enter Try.func48, Try.ntmps48
    go_wp2_with (first | (go_at_call 36; refine (C1.out _).mono ?_; rintro e w2 ⟨rfl, rfl⟩) | (go_at_call 74; refine C3.out.mono ?_; rintro e w2 ⟨rfl, rfl⟩) | (go_at_call 75; refine C4.out.mono ?_; rintro e w2 ⟨rfl, rfl⟩) | (go_at_call 76; refine C5.out.mono ?_; rintro e w2 ⟨rfl, hb2⟩))
    go_ret
    exact ⟨rfl, up_call U.out hb2⟩
  | true =>
  rw [if_neg (by decide)] at hB
  cases x6 with
  | true =>
    rw [if_pos rfl] at hB
    subst hB
    go_enter Try.func48, Try.ntmps48
    go_wp2_with (first | (go_at_call 36; refine (C1.out _).mono ?_; rintro e w2 ⟨rfl, rfl⟩) | (go_at_call 74; refine C3.out.mono ?_; rintro e w2 ⟨rfl, rfl⟩) | (go_at_call 75; refine C4.out.mono ?_; rintro e w2 ⟨rfl, rfl⟩) | (go_at_call 76; refine C5.out.mono ?_; rintro e w2 ⟨rfl, hb2⟩) | (go_at_call 65; refine (C6.out _ hb2).mono ?_; rintro e w3 ⟨rfl, hb3⟩))
    go_ret
    exact ⟨rfl, up_call (up_call U.out hb2) hb3⟩
  | false =>
    rw [if_neg (by decide)] at hB
    subst hB
    go_enter Try.func48, Try.ntmps48
    go_wp2_with (first | (go_at_call 36; refine (C1.out _).mono ?_; rintro e w2 ⟨rfl, rfl⟩) | (go_at_call 74; refine C3.out.mono ?_; rintro e w2 ⟨rfl, rfl⟩) | (go_at_call 75; refine C4.out.mono ?_; rintro e w2 ⟨rfl, rfl⟩) | (go_at_call 76; refine C5.out.mono ?_; rintro e w2 ⟨rfl, hb2⟩) | (go_at_call 65; refine (C6.out _ hb2).mono ?_; rintro e w3 ⟨rfl, hb3⟩))
    go_ret
    exact ⟨rfl, up_call (up_call U.out hb2) hb3⟩
theorem vRun_upto (p : Option Addr) (len cap k : Nat) (h : k ≤ cap) (w : World) :
    (Instr.slice 22 (.slice p len cap) none (some (.int .i64 (k : Int))) none).run Try.prog w = .ok (.slice p k cap) w := by
  rw [run_slice_h w 22 p len cap (by rw [Try.underlying22]; rfl) .i64 (k : Int) (by omega) (by omega)]
  have : ∀ w, (sizeOf (Try.prog.elem 22)).run Try.prog w = .ok 2 w := fun w => by kernel_rfl
  rw [this]
  have e : (fun a : Addr => a.add 0) = id := by funext a; rfl
  cases p <;> simp [Result.andThen, sliced]
  intro _; rfl
namespace Mv
theorem vs_take (rs : List R) (k : Nat) : (vs rs).take k = vs (rs.take k) := by unfold vs; rw [List.map_take]
theorem vs_get {rs : List R} {k : Nat} (h : k < rs.length) : (vs rs)[k]'(by rw [vs_len]; exact h) = rs[k].v := by unfold vs; rw [List.getElem_map]
/-- the state of Validate's loop: the first k values are in order -/
def At (l : List V) (k : Nat) (c i : Int) : Prop := fl (l.take k) (l.drop k) k = (c, i)
theorem At.start {l : List V} (h : ¬ 16 < l.length) : At l 0 (vC l) (vI l) := by
  unfold At vC vI vCI
  rw [if_neg h]; rfl
theorem At.next {l : List V} {k : Nat} {c i : Int} (h : At l k c i) (hk : k < l.length) : (cd l[k] (l.take k) = 0 → At l (k + 1) c i) ∧ (cd l[k] (l.take k) ≠ 0 → c = cd l[k] (l.take k) ∧ i = k) := by
  unfold At at h
  rw [fl_next hk] at h
  constructor
  · intro hz; rwa [if_pos hz] at h
  · intro hz
    rw [if_neg hz] at h
    exact ⟨(congrArg Prod.fst h).symm, (congrArg Prod.snd h).symm⟩
theorem At.last {l : List V} {c i : Int} (h : At l l.length c i) : c = 0 ∧ i = 0 := by
  unfold At at h
  rw [List.drop_length, List.take_length] at h
  exact ⟨(congrArg Prod.fst h).symm, (congrArg Prod.snd h).symm⟩
theorem cd_six {v : V} {e : List V} (h : cd v e = 0) : v.vec.length = 6 := by
  unfold cd at h
  split at h
  · cases h
  split at h
  · cases h
  · rename_i h2; simpa using h2
end Mv
set_option maxRecDepth 100000 in
set_option maxHeartbeats 4000000 in
theorem mvValidate_any (p : Option Addr) (rs : List Mv.R) (cap : Nat) (w : World) (hp : Vs w p rs) (hlc : rs.length ≤ cap) (hl : rs.length ≤ 4611686018427387904) :
    Calls Try.prog 18 #[.slice p rs.length cap] w (BPost (.agg #[.int .i64 (Mv.vC (Mv.vs rs)), .int .i64 (Mv.vI (Mv.vs rs))]) w) := by
  have up0 : Below w.heap.size w (w.alloc (.cells #[.int .i64 0, .int .i64 0] 24 (0, 0))) := up_alloc (Below.refl _ _) _
  have F0 := Lib.hid (Flt.new w 0 0 24)
  have z0 : (w.alloc (.cells #[.int .i64 0, .int .i64 0] 24 (0, 0))).heap.size = w.heap.size + 1 := by simp
  have HP := Lib.hid (hp.mono up0)
  have f0 := F0.out.f0
  have f1 := F0.out.f1
  have k0 := F0.out.c0
  have k1 := F0.out.c1
  clear hp
  by_cases h16 : 16 < rs.length
  · rw [show Mv.vC (Mv.vs rs) = 2 by unfold Mv.vC Mv.vCI; rw [Mv.vs_len, if_pos h16], show Mv.vI (Mv.vs rs) = -1 by unfold Mv.vI Mv.vCI; rw [Mv.vs_len, if_pos h16]]
    have g0 : decide ((16 : Int) < (rs.length : Int)) = true := decide_eq_true (by omega)
    go_enter Try.func18, Try.ntmps18
    go_wp2_with fail
    refine bodyPost_ret (v := .agg #[.int .i64 2, .int .i64 (-1)]) (by simp [results, Try.results18, go_sem]) rfl ⟨rfl, ?_⟩
    exact up_alloc (Below.refl _ _) _
  · have HA0 := Lib.hid (Mv.At.start (l := Mv.vs rs) (by rw [Mv.vs_len]; exact h16))
    generalize Mv.vC (Mv.vs rs) = c at HA0 ⊢
    generalize Mv.vI (Mv.vs rs) = i at HA0 ⊢
    have g0 : decide ((16 : Int) < (rs.length : Int)) = false := decide_eq_false (by omega)
    have hl16 : rs.length ≤ 16 := by omega
    clear h16 hl
    go_enter Try.func18, Try.ntmps18
    go_wp2_with fail
    generalize hW : w.alloc (.cells #[.int .i64 0, .int .i64 0] 24 (0, 0)) = W at up0 F0 HP f0 f1 k0 k1 z0 ⊢
    have Z0 := Lib.hid z0
    clear hW z0
    go_loopw [12] (fun iv wr => ∃ k : Nat, k ≤ rs.length ∧ iv = .int .i64 k ∧ Hid (Mv.At (Mv.vs rs) k c i) ∧ Hid (∀ r ∈ rs.take k, r.vec.length = 6) ∧ Hid (Below W.heap.size W wr)) (fun iv _ => rs.length - (intOf iv).toNat)
    case atStart => exact ⟨0, Nat.zero_le _, rfl, HA0, Lib.hid (fun r hr => by simp at hr), Lib.hid (Below.refl _ _)⟩
    case round =>
      as_aux_lemma =>
      obtain ⟨k, hk, rfl, hA, hN, hB⟩ := hrel
      have b0 : (0 : Int) ≤ (k : Int) := by omega
      clear f0 f1 k0 k1
      by_cases hlt : k < rs.length
      · have g1 : decide ((k : Int) < (rs.length : Int)) = true := decide_eq_true (by omega)
        have g1' : decide (k < rs.length) = true := decide_eq_true hlt
        have b1 : (k : Int) < (rs.length : Int) := by omega
        have VK := Lib.hid (HP.out.mono hB.out)
        obtain ⟨b, off, rfl, hb, c0, c1, hr⟩ := VK.out.cell hlt
        have HN := Lib.hid (hA.out.next (k := k) (by rw [Mv.vs_len]; exact hlt))
        rw [Mv.vs_get hlt, Mv.vs_take] at HN
        have NV := Lib.hid (fun (h : rs[k].vec.length = 6) => show ∀ r ∈ rs.take (k + 1), r.vec.length = 6 from fun r hr => by
          rw [List.take_succ_eq_append_getElem hlt] at hr
          rcases List.mem_append.1 hr with hr | hr
          · exact hN.out r hr
          · rw [List.mem_singleton.1 hr]; exact h)
        have hs := fun w => vRun_upto (some ⟨b, off, none⟩) rs.length cap k (by omega) w
        have hkl : (rs.take k).length = k := by rw [List.length_take]; omega
        have HLT := Lib.hid hlt
        obtain ⟨v, hx⟩ : ∃ x, x = rs[k]'hlt := ⟨_, rfl⟩
        rw [← hx] at c0 c1 hr HN NV
        clear hx
        have U2 := boxV_up wr v
        have VB2 := VB.new wr v
        have CO := Lib.hid (fun n => mvCode_any v (some ⟨b, off, none⟩) (rs.take k) cap (over (boxV wr v) n) ((hr.mono U2).mono (over_below _ n)) (((VK.out.mono U2).upto k).mono (over_below _ n)) (by rw [hkl]; omega) hN.out)
        rw [hkl] at CO
        generalize hcd : Mv.cd v.v (Mv.vs (rs.take k)) = d at HN CO
        have FB := Lib.hid (F0.out.up hB.out)
        have SIX := Lib.hid (fun h => Mv.cd_six (hcd.trans h))
        obtain ⟨x, xp, xc, xv⟩ := v
        unfold boxV at U2 VB2 CO
        dsimp only at U2 VB2 CO c0 c1
        obtain ⟨y0, y1, hg⟩ := VB2
        dsimp only at y0 y1
        have U3 := Lib.hid U2
        clear hr hkl hcd U2
        by_cases hd : d = 0
        · have g2 : (d != 0) = false := by rw [hd]; rfl
          have N1 := Lib.hid (HN.out.1 hd)
          have N2 := Lib.hid (NV.out (SIX.out hd))
          clear HN NV hd SIX
          go_wp2_with fail
          refine over_lit2 wr.heap.size 0 wr.heap.size 1 _ _ (by kernel_rfl) (by kernel_rfl) hg y0 hg y1 ?_
          intro d0 d1
          repeat (go_big_quiet_step ((go_at_call 48; exact over_call (CO.out _))))
          refine wpQuiet_nil ?_
          rintro _ ⟨n, rfl⟩
          have B2 := Lib.hid ((hB.out.trans (U3.out.mono hB.out.size)).trans ((over_below _ n).mono (Nat.le_trans hB.out.size U3.out.size)))
          go_wp2_with fail
          go_roundw
          case rel => exact ⟨k + 1, HLT.out, by go_num, N1, N2, B2⟩
          case measure => simp [intOf]; omega
        · have g2 : (d != 0) = true := by rw [bne_iff_ne]; exact hd
          obtain ⟨rfl, rfl⟩ := HN.out.2 hd
          clear HN NV hd SIX
          go_wp2_with fail
          refine over_lit2 wr.heap.size 0 wr.heap.size 1 _ _ (by kernel_rfl) (by kernel_rfl) hg y0 hg y1 ?_
          intro d0 d1
          repeat (go_big_quiet_step ((go_at_call 48; exact over_call (CO.out _))))
          refine wpQuiet_nil ?_
          rintro _ ⟨n, rfl⟩
          have B1 := (U3.out.mono (Nat.le_refl wr.heap.size)).trans ((over_below _ n).mono U3.out.size)
          have B2 := Lib.hid (hB.out.trans (B1.mono hB.out.size))
          have FC := FB.out.up B1
          have F1 := FC.set2 c k
          obtain ⟨m0, m1, f0, f1, -⟩ := FC
          have d0' := F1.c0
          have d1' := F1.c1
          clear d0 d1 y0 y1 B1 F1
          go_wp2_with fail
          refine bodyPost_ret (v := .agg #[.int .i64 c, .int .i64 k]) (by simp [results, Try.results18, go_sem, d0', d1']) rfl ⟨rfl, ?_⟩
          have hz := Z0.out
          exact ((up0.trans (B2.out.mono up0.size)).setCell (p := ⟨w.heap.size, 0, none⟩) (by simp) _).setCell (p := ⟨w.heap.size, 1, none⟩) (by simp) _
      · have g1 : decide ((k : Int) < (rs.length : Int)) = false := decide_eq_false (by omega)
        have g1' : decide (k < rs.length) = false := decide_eq_false hlt
        obtain rfl : k = rs.length := by omega
        have hA2 := hA.out
        rw [← Mv.vs_len rs] at hA2
        obtain ⟨rfl, rfl⟩ := hA2.last
        have FC := F0.out.up hB.out
        have F1 := FC.set2 0 0
        obtain ⟨m0, m1, f0, f1, -⟩ := FC
        have d0' := F1.c0
        have d1' := F1.c1
        clear F1 hA2
        go_wp2_with fail
        refine bodyPost_ret (v := .agg #[.int .i64 0, .int .i64 0]) (by simp [results, Try.results18, go_sem, d0', d1']) rfl ⟨rfl, ?_⟩
        exact ((up0.trans (hB.out.mono up0.size)).setCell (p := ⟨w.heap.size, 0, none⟩) (by simp) _).setCell (p := ⟨w.heap.size, 1, none⟩) (by simp) _
end Go.Proofs.Ytidncnhhjfdifaa
