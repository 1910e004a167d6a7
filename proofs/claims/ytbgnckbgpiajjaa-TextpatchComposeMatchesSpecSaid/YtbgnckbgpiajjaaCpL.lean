/-
  textpatch.middlePlaces: what it takes of eachHunk; what its row says; conflicts.
  textpatch.middlePlaces, walked.
-/
import Derived.Test.YtbgnckbgpiajjaaCpG
import Derived.Test.YtbgnckbgpiajjaaTqG
namespace Go.Proofs.Ytbgnckbgpiajjaa
open Go.RowKit
set_option maxRecDepth 4000

/-- k hunks of the first patch are noted -/
structure MpI (hs : List Tp.H) (plg atg C : Nat) (w0 : World) (k : Nat) (w : World) : Prop where
  ex : ∃ v rs, PlI plg C w v rs ∧ PlS w0 ((Tp.iv 0 hs).take k) [] rs ∧ rs.length ≤ 16000
  at' : w.cell? ⟨atg, 0, none⟩ = some (.func (.func 100) #[] #[.pointer (some ⟨plg, 0, none⟩)])
theorem visits_mid {hs : List Tp.H} {plg atg C : Nat} {w0 : World} (hv : Tp.Vp hs) (h0 : w0.heap.size ≤ plg) (hac : atg < C) (hne : atg ≠ plg) :
    Visits 101 #[.pointer (some ⟨atg, 0, none⟩)] hs w0 (fun k w => MpI hs plg atg C w0 k w) (OwnP plg) := by
  refine ⟨fun k w g hI hO => ?_, fun k w1 w2 hI hb => ?_, fun k hk w1 o n hI hB ro rn => ?_⟩
  · obtain ⟨v, rs, hP, -, -⟩ := hI.ex
    have h1 := hP.lt
    have h2 := hP.le
    rcases hO with rfl | ⟨u, hu, hb⟩
    · omega
    · rw [hP.c] at hu
      cases hu
      exact (own_block hP.own g hb).2
  · obtain ⟨v, rs, hP, hS, hl⟩ := hI.ex
    have h1 := hP.lt
    have h2 := hP.le
    refine ⟨⟨⟨v, rs, hP.up hb, hS, hl⟩, by rw [hb.cell (p := ⟨atg, 0, none⟩) (by dsimp only; omega)]; exact hI.at'⟩, fun g hO => ?_⟩
    rcases hO with rfl | ⟨u, hu, hg⟩
    · exact .inl rfl
    · rw [hb.cell (p := ⟨plg, 0, none⟩) (by dsimp only; omega)] at hu
      exact .inr ⟨u, hu, hg⟩
  · obtain ⟨v, rs, hP, hS, hl⟩ := hI.ex
    refine (visit_any plg atg C k hs w0 w1 v rs o n hv hk hP hI.at' hac hne hS hl hB h0 ro rn).mono ?_
    rintro e w2 ⟨rfl, v2, rs2, N⟩
    refine ⟨rfl, ⟨⟨v2, rs2, N.pl, N.st, N.len⟩, (World.cell?_of_block (a := ⟨atg, 0, none⟩) (N.far hP hac hne)).trans hI.at'⟩, hB.trans (N.bel.mono h0), ⟨N.bel.size, fun g hg hO => N.keep g hg (fun e => hO (.inl e)) (fun e => hO (.inr ⟨v, hP.c, e⟩)), fun g hO => ?_⟩⟩
    rcases hO with rfl | ⟨u, hu, hg⟩
    · exact .inl (.inl rfl)
    · rw [N.pl.c] at hu
      cases hu
      rcases N.new g hg with e | e
      · exact .inl (.inr ⟨v, hP.c, e⟩)
      · exact .inr e
theorem PlN.trans {plg C : Nat} {w0 : World} {K q K' q' : List Tp.H} {w w2 w3 : World} {v v2 v3 : Value} {rs2 rs3 : List Plr} (h : PlN plg C w0 K q w v w2 v2 rs2) (h' : PlN plg C w0 K' q' w2 v2 w3 v3 rs3) : PlN plg C w0 K' q' w v w3 v3 rs3 := by
  have hz := h.bel.size
  refine ⟨h'.pl, h'.st, h'.len, h.bel.trans h'.bel, fun k hk e1 e2 => ?_, fun b hb => ?_⟩
  · rw [h'.keep k (by omega) e1 (fun e => ?_), h.keep k hk e1 e2]
    rcases h.new k e with e3 | e3
    · exact e2 e3
    · omega
  · rcases h'.new b hb with e | e
    · exact h.new b e
    · exact .inr (by omega)

/-- the places as the two patches say -/
def plcs (K q : List Tp.H) (rs : List Plr) : List Plc := rs.mapIdx fun i r => ⟨Tp.vi K i, Tp.vi q i, r.mad, r.rem, r.ln⟩
theorem plcs_len (K q : List Tp.H) (rs : List Plr) : (plcs K q rs).length = rs.length := by unfold plcs; rw [List.length_mapIdx]
theorem plcs_get (K q : List Tp.H) (rs : List Plr) (i : Nat) (h : i < rs.length) (h' : i < (plcs K q rs).length) : (plcs K q rs)[i] = ⟨Tp.vi K i, Tp.vi q i, rs[i].mad, rs[i].rem, rs[i].ln⟩ := by simp [plcs]
theorem pls_of {C : Nat} {w0 W : World} {K q : List Tp.H} {v : Value} {rs : List Plr} (h : OwnE plE C W v rs) (s : PlS w0 K q rs) (hb : Below w0.heap.size w0 W) : ∃ p cap, v = .slice p (plcs K q rs).length cap ∧ Pls W p (plcs K q rs) := by
  obtain ⟨p, cap, e, hr, -⟩ := row_of_own h
  refine ⟨p, cap, by rw [plcs_len]; exact e, ⟨fun hp => List.length_eq_zero_iff.1 (by rw [plcs_len, hr.nil' hp]; rfl), fun hne => ?_⟩⟩
  obtain ⟨b, off, k1, k2, k3⟩ := hr.at' (fun e => hne (List.length_eq_zero_iff.1 (by rw [plcs_len, e]; rfl)))
  refine ⟨b, off, k1, k2, fun i hi => ?_⟩
  have hi' : i < rs.length := by rw [← plcs_len K q rs]; exact hi
  rw [plcs_get K q rs i hi' hi]
  obtain ⟨q1, q2, -⟩ := s.at' i hi'
  have kk := k3 i hi'
  exact ⟨rs[i].d, rs[i].n, kk 0 _ rfl, kk 1 _ rfl, kk 2 _ rfl, kk 3 _ rfl, kk 4 _ rfl, q1.mono hb, q2.mono hb⟩
theorem stps_pls (K q : List Tp.H) : ∀ (xs : List Plc) (k : Nat), (∀ i (hi : i < xs.length), xs[i].st = Tp.pl (Tp.vi K (k + i)) (Tp.vi q (k + i)) (Tp.vd K (k + i)) (Tp.vd q (k + i))) → stps xs = Tp.pls K q k xs.length := by
  intro xs
  induction xs with
  | nil => intro k _; rfl
  | cons x xs ih =>
    intro k h
    have h0 := h 0 (by simp)
    rw [List.getElem_cons_zero, Nat.add_zero] at h0
    unfold stps
    rw [List.flatMap_cons, List.length_cons, Tp.pls, h0]
    congr 1
    refine ih (k + 1) (fun i hi => ?_)
    have := h (i + 1) (by simpa using hi)
    rw [List.getElem_cons_succ] at this
    rw [this, show k + 1 + i = k + (i + 1) by omega]
theorem plc_st {w0 : World} {K q : List Tp.H} {rs : List Plr} (s : PlS w0 K q rs) (i : Nat) (h : i < rs.length) : (⟨Tp.vi K i, Tp.vi q i, rs[i].mad, rs[i].rem, rs[i].ln⟩ : Plc).st = Tp.pl (Tp.vi K i) (Tp.vi q i) (Tp.vd K i) (Tp.vd q i) := by
  obtain ⟨-, -, h3, h4, h5, h6⟩ := s.at' i h
  unfold Plc.st Tp.pl Plc.tl
  dsimp only
  rw [h3, h4]
  cases e1 : Tp.vd K i with
  | none =>
    cases e2 : Tp.vd q i with
    | none => rfl
    | some y => rw [h6 y e2]; rfl
  | some x =>
    cases e2 : Tp.vd q i with
    | none => rw [h5 x e1]; rfl
    | some y => rfl
/-- the row's patch is the composed one -/
theorem plcs_cm {w0 : World} {p q : List Tp.H} {rs : List Plr} (hp : Tp.Vp p) (hq : Tp.Vp q) (s : PlS w0 (Tp.iv 0 p) q rs) : Dif.pof (stps (plcs (Tp.iv 0 p) q rs)) = Tp.cm p q := by
  have k0 := Tp.gp_pos (show Tp.Gp (-1) (Tp.iv 0 p) from (Tp.ch_gp hp.ch).iv 0) (by omega)
  have q0 := Tp.gp_pos (Tp.ch_gp hq.ch) (by omega)
  have e : stps (plcs (Tp.iv 0 p) q rs) = Tp.pls (Tp.iv 0 p) q 0 rs.length := by
    rw [← plcs_len (Tp.iv 0 p) q rs]
    refine stps_pls _ _ _ 0 (fun i hi => ?_)
    rw [plcs_get _ _ _ i (by rw [← plcs_len (Tp.iv 0 p) q rs]; exact hi) hi, Nat.zero_add]
    exact plc_st s i _
  have a1 := Tp.nt_ge (Tp.iv 0 p) 0
  have a2 := Tp.nt_ge q (Tp.nt 0 (Tp.iv 0 p))
  rw [e, ← Tp.pls_nt hp.ch hq.ch]
  refine (Tp.pls_short _ _ _ _ s.far (fun i hi' => ?_)).symm
  obtain ⟨b1, b2⟩ := Tp.v_far (Tp.iv 0 p) k0 _ a1.2 i (by omega)
  obtain ⟨b3, b4⟩ := Tp.v_far q q0 _ a2.2 i hi'
  exact ⟨b1, b2, b3, b4⟩
theorem vi_mem (K : List Tp.H) (i : Nat) : Tp.vi K i = [] ∨ ∃ h ∈ K, Tp.vi K i = h.new := by
  induction K with
  | nil => exact .inl rfl
  | cons h r ih =>
    rw [Tp.vi]
    split
    · exact .inr ⟨h, List.mem_cons_self .., rfl⟩
    · rcases ih with e | ⟨x, hx, e⟩
      · exact .inl e
      · exact .inr ⟨x, List.mem_cons_of_mem _ hx, e⟩
theorem iv_small {hs : List Tp.H} (hv : Tp.Vp hs) : ∀ h ∈ Tp.iv 0 hs, h.old.length ≤ 120 ∧ h.new.length ≤ 120 := by
  intro h hh
  obtain ⟨k, hk, rfl⟩ := List.mem_iff_getElem.1 hh
  have hk' : k < hs.length := by rwa [Tp.iv_len] at hk
  rw [Tp.iv_get hs 0 k hk' hk]
  have := Tp.ch_new hv.ch hs[k] (List.getElem_mem hk')
  exact ⟨(Lin.vC_zero this.1).1, (Lin.vC_zero this.2).1⟩
theorem plcs_small {w0 : World} {p q : List Tp.H} {rs : List Plr} (hp : Tp.Vp p) (hq : Tp.Vp q) (s : PlS w0 (Tp.iv 0 p) q rs) : ∀ x ∈ plcs (Tp.iv 0 p) q rs, x.del.length ≤ 120 ∧ x.ins.length ≤ 120 ∧ x.ln.size ≤ 140737488351232 := by
  intro x hx
  obtain ⟨i, hi, rfl⟩ := List.mem_iff_getElem.1 hx
  have hi' : i < rs.length := by rwa [plcs_len] at hi
  rw [plcs_get _ _ _ i hi' hi]
  refine ⟨?_, ?_, s.sz _ (List.getElem_mem hi')⟩
  · rcases vi_mem (Tp.iv 0 p) i with e | ⟨h, hh, e⟩
    · dsimp only; rw [e]; simp
    · dsimp only; rw [e]; exact (iv_small hp h hh).2
  · rcases vi_mem q i with e | ⟨h, hh, e⟩
    · dsimp only; rw [e]; simp
    · dsimp only; rw [e]; exact (Lin.vC_zero (Tp.ch_new hq.ch h hh).1).1

/-! conflicts -/
theorem cfh_true {K : List Tp.H} {h : Tp.H} (j : Nat) (hj : j < h.old.length) {y : ByteArray} (hy : Tp.vd K (h.at'.toNat + j) = some y) (hne : y ≠ h.old[j]) : Tp.cfh K h = true := by
  unfold Tp.cfh
  refine List.any_eq_true.2 ⟨j, List.mem_range.2 hj, ?_⟩
  rw [hy]
  simp [List.getD_eq_getElem?_getD, hj, hne]
theorem cfh_false {K : List Tp.H} {h : Tp.H} (hc : ∀ j (hj : j < h.old.length) y, Tp.vd K (h.at'.toNat + j) = some y → y = h.old[j]) : Tp.cfh K h = false := by
  unfold Tp.cfh
  refine List.any_eq_false.2 (fun j hj => ?_)
  have hj' := List.mem_range.1 hj
  cases e : Tp.vd K (h.at'.toNat + j) with
  | none => simp
  | some y => simp [List.getD_eq_getElem?_getD, hj', hc j hj' y e]
theorem cfi_some {K : List Tp.H} : ∀ {q : List Tp.H} {i n : Nat} (hi : i < q.length), (∀ j (hj : j < i), Tp.cfh K (q[j]'(by omega)) = false) → Tp.cfh K q[i] = true → Tp.cfi K q n = some (n + i) := by
  intro q
  induction q with
  | nil => intro i n hi; simp at hi
  | cons h r ih =>
    intro i n hi h1 h2
    cases i with
    | zero =>
      rw [Tp.cfi]
      rw [List.getElem_cons_zero] at h2
      rw [if_pos h2]; rfl
    | succ i =>
      have h0 := h1 0 (by omega)
      rw [List.getElem_cons_zero] at h0
      rw [Tp.cfi, if_neg (by rw [h0]; simp), ih (i := i) (n := n + 1) (by simpa using hi) (fun j hj => by have := h1 (j + 1) (by omega); rwa [List.getElem_cons_succ] at this) (by rwa [List.getElem_cons_succ] at h2)]
      congr 1
      omega
theorem cfi_calm {K : List Tp.H} : ∀ {q : List Tp.H} {n : Nat}, (∀ j (hj : j < q.length), Tp.cfh K q[j] = false) → Tp.cfi K q n = none := by
  intro q
  induction q with
  | nil => intro n _; rfl
  | cons h r ih =>
    intro n h1
    have h0 := h1 0 (by simp)
    rw [List.getElem_cons_zero] at h0
    rw [Tp.cfi, if_neg (by rw [h0]; simp)]
    exact ih (fun j hj => by have := h1 (j + 1) (by simpa using hj); rwa [List.getElem_cons_succ] at this)
/-- the fault of a composition of valid patches -/
def kfC (hs ks : List Tp.H) : Int := match Tp.cfi (Tp.iv 0 hs) ks 0 with | some _ => 19 | none => 0
def kfI (hs ks : List Tp.H) : Int := match Tp.cfi (Tp.iv 0 hs) ks 0 with | some i => -3 - (i : Int) | none => 0
theorem kf_none {hs ks : List Tp.H} (h : Tp.cfi (Tp.iv 0 hs) ks 0 = none) : kfC hs ks = 0 ∧ kfI hs ks = 0 := by unfold kfC kfI; rw [h]; exact ⟨rfl, rfl⟩
theorem kf_some {hs ks : List Tp.H} {i : Nat} (h : Tp.cfi (Tp.iv 0 hs) ks 0 = some i) : kfC hs ks = 19 ∧ kfI hs ks = -3 - (i : Int) := by unfold kfC kfI; rw [h]; exact ⟨rfl, rfl⟩
/-- what middlePlaces returns -/
def MpPost (hs ks : List Tp.H) (w : World) (e : Ending) (w' : World) : Prop :=
  ∃ p n cap, e = .returned (.tuple #[.slice p n cap, .agg #[.int .i64 (kfC hs ks), .int .i64 (kfI hs ks)]]) ∧ Below w.heap.size w w' ∧
    (kfC hs ks = 0 → ∃ xs, n = xs.length ∧ Pls w' p xs ∧ xs.length ≤ 16000 ∧ (∀ x ∈ xs, x.del.length ≤ 120 ∧ x.ins.length ≤ 120 ∧ x.ln.size ≤ 140737488351232) ∧ Dif.pof (stps xs) = Tp.cm hs ks)
end Go.Proofs.Ytbgnckbgpiajjaa
namespace Go.Proofs.Ytbgnckbgpiajjaa
open Go.RowKit

set_option maxRecDepth 100000 in
set_option maxHeartbeats 8000000 in
theorem middle_any (p q : Option Addr) (hs ks : List Tp.H) (n cap m cap' : Nat) (w : World) (hn : n = hs.length) (hm : m = ks.length) (hp : Ptc w p hs) (hq : Ptc w q ks) (hv : Tp.Vp hs) (hv' : Tp.Vp ks) :
    Calls Try.prog 70 #[.agg #[.slice p n cap], .agg #[.slice q m cap']] w (MpPost hs ks w) := by
  subst hn hm
  have HP := Lib.hid hp
  have HQ := Lib.hid hq
  have VP := Lib.hid hv
  have VQ := Lib.hid hv'
  obtain ⟨o1, e1⟩ : ∃ o, o = Obj.cells #[.slice p hs.length cap] 41 (0, 0) := ⟨_, rfl⟩
  obtain ⟨o2, e2⟩ : ∃ o, o = Obj.cells #[.slice q ks.length cap'] 41 (0, 0) := ⟨_, rfl⟩
  obtain ⟨o3, e3⟩ : ∃ o, o = Obj.cells #[.int .i64 0, .int .i64 0] 25 (0, 0) := ⟨_, rfl⟩
  obtain ⟨o4, e4⟩ : ∃ o, o = Obj.cells #[.slice none 0 0] 94 (0, 0) := ⟨_, rfl⟩
  obtain ⟨o5, e5⟩ : ∃ o, o = Obj.cells #[.func (.func 100) #[] #[.pointer (some ⟨w.heap.size + 1 + 1 + 1, 0, none⟩)]] 128 (0, 0) := ⟨_, rfl⟩
  have b0 := up_alloc (up_alloc (up_alloc (up_alloc (up_alloc (Below.refl w.heap.size w) o1) o2) o3) o4) o5
  have P0 := (((((e1 ▸ One.new w (.slice p hs.length cap) 41 w.heap.size rfl : One (w.alloc o1) w.heap.size (.slice p hs.length cap)).alloc o2).alloc o3).alloc o4).alloc o5)
  have Q0 := ((((e2 ▸ One.new (w.alloc o1) (.slice q ks.length cap') 41 (w.heap.size + 1) (by simp) : One ((w.alloc o1).alloc o2) (w.heap.size + 1) (.slice q ks.length cap')).alloc o3).alloc o4).alloc o5)
  have F0 : Flt (((((w.alloc o1).alloc o2).alloc o3).alloc o4).alloc o5) (w.heap.size + 1 + 1) 0 0 := by
    have := Flt.new ((w.alloc o1).alloc o2) 0 0 25
    rw [World.size_alloc, World.size_alloc, ← e3] at this
    exact (this.alloc o4).alloc o5
  have L0 := ((e4 ▸ One.new (((w.alloc o1).alloc o2).alloc o3) (.slice none 0 0) 94 (w.heap.size + 1 + 1 + 1) (by simp) : One ((((w.alloc o1).alloc o2).alloc o3).alloc o4) (w.heap.size + 1 + 1 + 1) (.slice none 0 0)).alloc o5)
  have A0 : One (((((w.alloc o1).alloc o2).alloc o3).alloc o4).alloc o5) (w.heap.size + 1 + 1 + 1 + 1) (.func (.func 100) #[] #[.pointer (some ⟨w.heap.size + 1 + 1 + 1, 0, none⟩)]) := by
    have := One.new ((((w.alloc o1).alloc o2).alloc o3).alloc o4) (.func (.func 100) #[] #[.pointer (some ⟨w.heap.size + 1 + 1 + 1, 0, none⟩)]) 128 (w.heap.size + 1 + 1 + 1 + 1) (by simp)
    rw [← e5] at this
    exact this
  have hz : (((((w.alloc o1).alloc o2).alloc o3).alloc o4).alloc o5).heap.size = w.heap.size + 5 := by simp
  subst e1 e2 e3 e4 e5
  clear hp hq hv hv'
  have pc := P0.c
  have P0H := Lib.hid (And.intro P0 (And.intro Q0 (And.intro F0 (And.intro L0 A0))))
  have HZ := Lib.hid hz
  have HB0 := Lib.hid b0
  clear P0 Q0 F0 L0 A0 hz b0
  go_enter Try.func70, Try.ntmps70
  go_wp2_with fail
  obtain ⟨W, hW⟩ : ∃ W, W = ((((w.alloc (.cells #[.slice p hs.length cap] 41 (0, 0))).alloc (.cells #[.slice q ks.length cap'] 41 (0, 0))).alloc (.cells #[.int .i64 0, .int .i64 0] 25 (0, 0))).alloc (.cells #[.slice none 0 0] 94 (0, 0))).alloc (.cells #[.func (.func 100) #[] #[.pointer (some ⟨w.heap.size + 1 + 1 + 1, 0, none⟩)]] 128 (0, 0)) := ⟨_, rfl⟩
  rw [← hW] at P0H HZ HB0 pc ⊢
  clear hW pc
  have hz := HZ.out
  have L0 := P0H.out.2.2.2.1
  have A0 := P0H.out.2.2.2.2
  have MI0 : MpI hs (w.heap.size + 1 + 1 + 1) (w.heap.size + 1 + 1 + 1 + 1) (w.heap.size + 5) w 0 W := ⟨⟨_, [], ⟨L0.c, L0.f, by omega, by omega, ownE_nil _ _ _⟩, PlS.start _, by simp⟩, A0.c⟩
  have VI := Lib.hid (visits_mid (w0 := w) (C := w.heap.size + 5) VP.out (show w.heap.size ≤ w.heap.size + 1 + 1 + 1 by omega) (show w.heap.size + 1 + 1 + 1 + 1 < w.heap.size + 5 by omega) (by omega))
  clear hz
  refine (eachHunk_any 101 #[.pointer (some ⟨w.heap.size + 1 + 1 + 1 + 1, 0, none⟩)] _ _ p hs _ cap w _ rfl HP.out VP.out HB0.out MI0 (enters_of Try.func101 (by kernel_rfl) rfl) VI.out).mono ?_
  rintro e W3 ⟨rfl, ⟨⟨v3, rs3, PI3, PS3, hl3⟩, at3⟩, hB3, hA3⟩
  rw [List.take_of_length_le (by rw [Tp.iv_len]; omega)] at PS3
  have NO : ∀ g, g ≠ w.heap.size + 1 + 1 + 1 → ¬ OwnP (w.heap.size + 1 + 1 + 1) W g := fun g hg hO => by
    rcases hO with e | ⟨u, hu, hb⟩
    · exact hg e
    · rw [L0.c] at hu; cases hu; cases hb
  have hz := HZ.out
  have Q3 := P0H.out.2.1.same (hA3.block _ (by omega) (NO _ (by omega)))
  have F3 := Lib.hid (P0H.out.2.2.1.same (hA3.block _ (by omega) (NO _ (by omega))))
  have N3 := Lib.hid (PlN.refl PI3 PS3 hl3)
  have PIH := Lib.hid PI3
  have B3 := Lib.hid hB3
  have hz3 := hA3.size
  have qc := Q3.c
  obtain ⟨K, hK⟩ : ∃ K, K = Tp.iv 0 hs := ⟨_, rfl⟩
  have KH := Lib.hid hK
  rw [← hK] at N3
  have K0 : Hid (∀ x ∈ K, 0 ≤ x.at') := Lib.hid (by rw [hK]; exact Tp.gp_pos (show Tp.Gp (-1) (Tp.iv 0 hs) from (Tp.ch_gp VP.out.ch).iv 0) (by omega))
  clear hK Q3 hA3 hB3 PI3 PS3 NO MI0 VI L0 A0 P0H hz
  go_wp2_with fail
  go_loopw [20] (fun t wr => ∃ (i : Nat) (v2 : Value) (rs2 : List Plr), i ≤ ks.length ∧ t = .int .i64 i ∧ Hid (PlN (w.heap.size + 1 + 1 + 1) (w.heap.size + 5) w K (ks.take i) W3 v3 wr v2 rs2) ∧ Hid (∀ j (_ : j < i) (hj2 : j < ks.length), Tp.cfh K ks[j] = false)) (fun t _ => ks.length - (intOf t).toNat)
  case atStart => exact ⟨0, _, _, Nat.zero_le _, rfl, N3, Lib.hid (fun j hj => by omega)⟩
  case round =>
    obtain ⟨i, v2, rs2, hi, rfl, hN, hC⟩ := hrel
    clear N3
    have b0 : (0 : Int) ≤ (i : Int) := by omega
    have hql := VQ.out.len
    by_cases hlt : i < ks.length
    · have g1 : decide (i < ks.length) = true := by simpa using hlt
      have b1 : (i : Int) < (ks.length : Int) := by omega
      have bw : Below w.heap.size w wr := B3.out.trans (hN.out.bel.mono (by omega))
      obtain ⟨b, off, rfl, hbb, ⟨o1, o2, o3⟩, ⟨n1, n2, n3⟩, c0, c1, c2, ro, rn⟩ := HQ.out.cell hlt
      replace c0 := (bw.cell (p := ⟨b, off + i * 3, none⟩) hbb).trans c0
      replace c1 := (bw.cell (p := ⟨b, off + i * 3 + 1, none⟩) hbb).trans c1
      replace c2 := (bw.cell (p := ⟨b, off + i * 3 + 2, none⟩) hbb).trans c2
      obtain ⟨⟨pr, hok⟩, -⟩ := Tp.ch_at VQ.out.ch i hlt
      have z0 := hok.lo
      have z1 := hok.hi
      have z2 := (Lin.vC_zero hok.old).1
      have z3 := (Lin.vC_zero hok.new).1
      have gp := gp_take (i + 1) (Tp.ch_gp VQ.out.ch)
      have tk := List.take_succ_eq_append_getElem hlt
      rw [tk] at gp
      obtain ⟨⟨z, ol, nl⟩, hx⟩ : ∃ x, x = ks[i] := ⟨_, rfl⟩
      rw [← hx] at c0 ro rn z0 z1 z2 z3 gp tk
      dsimp only at c0 ro rn z0 z1 z2 z3 gp tk
      obtain ⟨a, rfl⟩ : ∃ a : Nat, z = (a : Int) := ⟨z.toNat, by omega⟩
      have HX := Lib.hid hx
      have TK := Lib.hid tk
      have GP := Lib.hid gp
      have Q0 : Hid (∀ x ∈ ks.take i, 0 ≤ x.at') := Lib.hid (fun x hx => Tp.gp_pos gp (by omega) x (List.mem_append_left _ hx))
      have l1 := ro.len
      have l2 := rn.len
      dsimp only at l1 l2
      subst l1 l2
      simp only [sv] at c1 c2
      have RO := Lib.hid ro
      have RN := Lib.hid rn
      have hb1 := up_alloc (Below.refl wr.heap.size wr) (.cells #[.int .i64 (a : Int), .slice o1 ol.length o3, .slice n1 nl.length n3] 81 (0, 0))
      have N1 := Lib.hid (hN.out.up hb1)
      have U1 := Hu.new wr (a : Int) (.slice o1 ol.length o3) (.slice n1 nl.length n3) 81
      have hzr := hN.out.bel.size
      have at1 := (World.cell?_of_block (a := ⟨w.heap.size + 1 + 1 + 1 + 1, 0, none⟩) (N1.out.far PIH.out (b := w.heap.size + 1 + 1 + 1 + 1) (by omega) (by omega))).trans at3
      have hzW : (wr.alloc (.cells #[.int .i64 (a : Int), .slice o1 ol.length o3, .slice n1 nl.length n3] 81 (0, 0))).heap.size = wr.heap.size + 1 := by simp
      have NOW : Hid (v2.ownBlock ≠ some wr.heap.size) := Lib.hid (fun e => by have := (own_block hN.out.pl.own _ e).2; omega)
      have NOA : Hid (v2.ownBlock ≠ some (w.heap.size + 1 + 1 + 1 + 1)) := Lib.hid (fun e => by have := (own_block hN.out.pl.own _ e).1; omega)
      have hle := PIH.out.le
      clear hok pr hx tk gp ro rn hb1 hN bw
      go_wp2_with fail
      obtain ⟨W4, hW⟩ : ∃ W4, W4 = wr.alloc (.cells #[.int .i64 (a : Int), .slice o1 ol.length o3, .slice n1 nl.length n3] 81 (0, 0)) := ⟨_, rfl⟩
      rw [← hW] at N1 U1 at1 hzW ⊢
      clear hW c0 c1 c2
      obtain ⟨x0, x1, x2, x3⟩ := U1
      have HZW := Lib.hid hzW
      clear hzW
      go_region_held3 (fun w' => w'.cell? ⟨wr.heap.size, 0, none⟩ = some (.int .i64 (a : Int)) ∧ w'.cell? ⟨wr.heap.size, 2, none⟩ = some (.slice n1 nl.length n3) ∧ w'.cell? ⟨w.heap.size + 1 + 1 + 1 + 1, 0, none⟩ = some (.func (.func 100) #[] #[.pointer (some ⟨w.heap.size + 1 + 1 + 1, 0, none⟩)])) (go_keep)
        (first
          | (go_at_call 100
             refine (place_any (w.heap.size + 1 + 1 + 1) (w.heap.size + 5) a _ rfl v2 rs2 _ ((N1.out.up (by first | exact Below.refl _ _ | exact (Below.refl _ _).drew | exact (Below.refl _ _).drew.drew)).pl) (by omega)).mono ?_
             rintro e wA ⟨g, capA, rfl, AP⟩
             have kw := AP.keep wr.heap.size (by show wr.heap.size < W4.heap.size; have := HZW.out; omega) (by omega) NOW.out
             have c0A : wA.cell? ⟨wr.heap.size, 0, none⟩ = some (.int .i64 (a : Int)) := (World.cell?_of_block (a := ⟨wr.heap.size, 0, none⟩) kw).trans x0
             have c1A : wA.cell? ⟨wr.heap.size, 1, none⟩ = some (.slice o1 ol.length o3) := (World.cell?_of_block (a := ⟨wr.heap.size, 1, none⟩) kw).trans x1
             have c2A : wA.cell? ⟨wr.heap.size, 2, none⟩ = some (.slice n1 nl.length n3) := (World.cell?_of_block (a := ⟨wr.heap.size, 2, none⟩) kw).trans x2
             have cAA : wA.cell? ⟨w.heap.size + 1 + 1 + 1 + 1, 0, none⟩ = some (.func (.func 100) #[] #[.pointer (some ⟨w.heap.size + 1 + 1 + 1, 0, none⟩)]) := (World.cell?_of_block (a := ⟨w.heap.size + 1 + 1 + 1 + 1, 0, none⟩) (AP.keep (w.heap.size + 1 + 1 + 1 + 1) (by show w.heap.size + 1 + 1 + 1 + 1 < W4.heap.size; have := HZW.out; omega) (by omega) NOA.out)).trans at1
             obtain ⟨rsA, nA, NA1, NA2⟩ := (N1.out.up (by first | exact Below.refl _ _ | exact (Below.refl _ _).drew | exact (Below.refl _ _).drew.drew)).at' K0.out Q0.out (by omega) AP
             obtain ⟨-, k1, -, -, -, kf, kg, -⟩ := NA1.pl.cells NA2
             have gw : g ≠ wr.heap.size := fun e => by
               rcases AP.new with e2 | e2
               · rw [e] at e2; exact NOW.out e2
               · have e3 : W4.heap.size ≤ g := e2
                 have := HZW.out
                 omega
             have s0 : (wA.setCell ⟨g, a * 5 + 1, none⟩ (.slice n1 nl.length n3)).cell? ⟨wr.heap.size, 0, none⟩ = some (.int .i64 (a : Int)) := by rw [World.cell?_setCell_other (h := by intro e; injection e with e1 _ _; omega)]; exact c0A
             have s1 : (wA.setCell ⟨g, a * 5 + 1, none⟩ (.slice n1 nl.length n3)).cell? ⟨wr.heap.size, 1, none⟩ = some (.slice o1 ol.length o3) := by rw [World.cell?_setCell_other (h := by intro e; injection e with e1 _ _; omega)]; exact c1A
             have s2 : (wA.setCell ⟨g, a * 5 + 1, none⟩ (.slice n1 nl.length n3)).cell? ⟨wr.heap.size, 2, none⟩ = some (.slice n1 nl.length n3) := by rw [World.cell?_setCell_other (h := by intro e; injection e with e1 _ _; omega)]; exact c2A
             have s3 : (wA.setCell ⟨g, a * 5 + 1, none⟩ (.slice n1 nl.length n3)).cell? ⟨w.heap.size + 1 + 1 + 1 + 1, 0, none⟩ = some (.func (.func 100) #[] #[.pointer (some ⟨w.heap.size + 1 + 1 + 1, 0, none⟩)]) := by rw [World.cell?_setCell_other (h := by intro e; injection e with e1 _ _; omega)]; exact cAA
             have kf1 := kf (a * 5 + 1)
             have NAH := Lib.hid (And.intro NA1 gw)
             clear AP NA1 kf kw gw))
      rename_i hHeld
      have N2 := Lib.hid (NAH.out.1.set (k := 1) NA2 (by omega) { rsA[a] with n := (n1, nl.length, n3) } (.slice n1 nl.length n3) rfl (NAH.out.1.st.ins nl (gp_less GP.out) NA2 _ RN.out))
      have gw := Lib.hid NAH.out.2
      obtain ⟨WB, hWB⟩ : ∃ WB, WB = wA.setCell ⟨g, a * 5 + 1, none⟩ (.slice n1 nl.length n3) := ⟨_, rfl⟩
      rw [← hWB] at N2 s0 s1 ⊢
      obtain ⟨rsB, hrB⟩ : ∃ rsB, rsB = rsA.set a { rsA[a] with n := (n1, nl.length, n3) } := ⟨_, rfl⟩
      rw [← hrB] at N2
      clear hHeld s2 s3 k1 kf1 c0A c1A c2A cAA hWB NAH hrB
      have hzB : wr.heap.size < WB.heap.size := cell_block_lt s0
      have PB := Lib.hid N2.out.pl
      have NB := Lib.hid (PlN.refl N2.out.pl N2.out.st N2.out.len)
      obtain ⟨wo, rfl⟩ : ∃ wo, wo = wr := ⟨_, rfl⟩
      go_wp2_with fail
      go_loopw [36] (fun t wq => ∃ (j : Nat) (v4 : Value) (rs4 : List Plr), j ≤ ol.length ∧ t = .int .i64 j ∧ Hid (PlN (w.heap.size + 1 + 1 + 1) (w.heap.size + 5) w K (ks.take i ++ [⟨(a : Int), ol.take j, nl⟩]) WB (.slice (some ⟨g, 0, none⟩) nA capA) wq v4 rs4) ∧ Hid (∀ j' (_ : j' < j) (h2 : j' < ol.length) y, Tp.vd K (a + j') = some y → y = ol[j'])) (fun t _ => ol.length - (intOf t).toNat)
      case atStart => exact ⟨0, _, _, Nat.zero_le _, rfl, NB, Lib.hid (fun j hj => by omega)⟩
      case round =>
        obtain ⟨j, v4, rs4, hj, rfl, hM, hD⟩ := hrel
        clear NB
        have c0' : (0 : Int) ≤ (j : Int) := by omega
        by_cases hjl : j < ol.length
        · have g2 : decide (j < ol.length) = true := by simpa using hjl
          have b2 : (j : Int) < (ol.length : Int) := by omega
          have bq : Below w.heap.size w wr := (B3.out.trans (N2.out.bel.mono (by omega))).trans (hM.out.bel.mono (by omega))
          obtain ⟨b', off', rfl, hbb', hc⟩ := RO.out.sts.at' (by intro e; rw [e] at hjl; simp at hjl)
          have cl := (bq.cell (p := ⟨b', off' + j, none⟩) hbb').trans (hc j hjl)
          rw [show ol.getD j ByteArray.empty = ol[j] by simp [List.getD_eq_getElem?_getD, hjl]] at cl
          have at2 : wr.cell? ⟨w.heap.size + 1 + 1 + 1 + 1, 0, none⟩ = some (.func (.func 100) #[] #[.pointer (some ⟨w.heap.size + 1 + 1 + 1, 0, none⟩)]) := ((World.cell?_of_block (a := ⟨w.heap.size + 1 + 1 + 1 + 1, 0, none⟩) (hM.out.far PB.out (b := w.heap.size + 1 + 1 + 1 + 1) (by omega) (by omega))).trans (World.cell?_of_block (a := ⟨w.heap.size + 1 + 1 + 1 + 1, 0, none⟩) (N2.out.far PIH.out (b := w.heap.size + 1 + 1 + 1 + 1) (by omega) (by omega)))).trans at3
          have x0' : wr.cell? ⟨wo.heap.size, 0, none⟩ = some (.int .i64 (a : Int)) := (hM.out.box (a := ⟨wo.heap.size, 0, none⟩) hzB (by dsimp only; omega) (fun e => gw.out (Option.some.inj e))).trans s0
          have wz : IntKind.i64.wrap ((a : Int) + (j : Int)) = (a : Int) + (j : Int) := IntWalk.i64_in _ (by omega)
          clear bq hc
          go_wp2_with fail
          refine (place_any (w.heap.size + 1 + 1 + 1) (w.heap.size + 5) (a + j) _ (by omega) v4 rs4 _ hM.out.pl (by omega)).mono ?_
          rintro e w5 ⟨g5, cap5, rfl, AP⟩
          obtain ⟨rs5, n5, N5, hl5⟩ := hM.out.at' K0.out (by
            intro x hx
            rcases List.mem_append.1 hx with hx | hx
            · exact Q0.out x hx
            · rw [List.mem_singleton.1 hx]; dsimp only; omega) (by omega) AP
          obtain ⟨-, -, k2, k3, k4, kf, -, -⟩ := N5.pl.cells hl5
          obtain ⟨-, -, m3, -, m5, -⟩ := N5.st.at' (a + j) hl5
          have kf3 := kf ((a + j) * 5 + 3)
          have kf4 := kf ((a + j) * 5 + 4)
          have lt : (ol.take j).length = j := by rw [List.length_take]; omega
          have sg := N5.st.gone (gp_less GP.out) ol[j] (RO.out.sts.small _ (List.getElem_mem hjl)) (a + j) (by rw [lt]) hl5
          rw [← List.take_succ_eq_append_getElem hjl] at sg
          cases hvd : Tp.vd K (a + j) with
          | none =>
            have m3' : rs5[a + j].mad = false := by rw [m3, hvd]; rfl
            rw [m3'] at k2
            have st := sg (fun y hy => by rw [hvd] at hy; cases hy)
            have hd : ∀ j' (_ : j' < j + 1) (h2 : j' < ol.length) y, Tp.vd K (a + j') = some y → y = ol[j'] := fun j' h1 h2 y hy => by
              rcases Nat.lt_or_ge j' j with h3 | h3
              · exact hD.out j' h3 h2 y hy
              · obtain rfl : j' = j := by omega
                rw [hvd] at hy; cases hy
            clear sg m3' hvd
            have N6 := Lib.hid (N5.set2 (k := 3) (k' := 4) hl5 (by omega) (by omega) { rs5[a + j] with rem := true, ln := ol[j] } (.bool true) (.string ol[j]) { rs5[a + j] with rem := true } rfl rfl st)
            have HD := Lib.hid hd
            clear kf AP N5 st lt hd m3 m5
            go_wp2_with fail
            go_roundw
            case rel => exact ⟨j + 1, _, _, hjl, by go_num, N6, HD⟩
            case measure => first | (simp [intOf]; done) | (simp [intOf]; omega)
          | some y =>
            have m3' : rs5[a + j].mad = true := by rw [m3, hvd]; rfl
            rw [m3'] at k2
            rw [m5 y hvd] at k4
            by_cases hy : y = ol[j]
            · subst hy
              have st := sg (fun y hy => by rw [hvd] at hy; exact (Option.some.inj hy).symm)
              have hd : ∀ j' (_ : j' < j + 1) (h2 : j' < ol.length) y, Tp.vd K (a + j') = some y → y = ol[j'] := fun j' h1 h2 y hy => by
                rcases Nat.lt_or_ge j' j with h3 | h3
                · exact hD.out j' h3 h2 y hy
                · obtain rfl : j' = j := by omega
                  rw [hvd] at hy; exact (Option.some.inj hy).symm
              clear sg m3' hvd
              have N6 := Lib.hid (N5.set2 (k := 3) (k' := 4) hl5 (by omega) (by omega) { rs5[a + j] with rem := true, ln := ol[j] } (.bool true) (.string ol[j]) { rs5[a + j] with rem := true } rfl rfl st)
              have HD := Lib.hid hd
              clear kf AP N5 st lt hd m3 m5
              go_wp2_with fail
              go_roundw
              case rel => exact ⟨j + 1, _, _, hjl, by go_num, N6, HD⟩
              case measure => first | (simp [intOf]; done) | (simp [intOf]; omega)
            · have t1 : (y.toList == ol[j].toList) = false := tl_false hy
              have t2 : (y.toList != ol[j].toList) = true := by unfold bne; rw [t1]; rfl
              have FF := (F3.out.same (N2.out.far PIH.out (b := w.heap.size + 1 + 1) (by omega) (by omega))).same (N5.far PB.out (b := w.heap.size + 1 + 1) (by omega) (by omega))
              have CF : Hid (kfC hs ks = 19 ∧ kfI hs ks = -3 - (i : Int)) := Lib.hid (kf_some (by
                rw [← KH.out]
                have := cfi_some (K := K) (n := 0) hlt (fun j' hj' => hC.out j' hj' (by omega)) (by
                  rw [← HX.out]
                  exact cfh_true (y := y) j hjl (by rw [Int.toNat_natCast]; exact hvd) hy)
                rwa [Nat.zero_add] at this))
              have bE : Below w.heap.size w w5 := (B3.out.trans (N2.out.bel.mono (by omega))).trans (N5.bel.mono (by omega))
              have BE := Lib.hid bE
              have wz3 : IntKind.i64.wrap (-3 - (i : Int)) = -3 - (i : Int) := IntWalk.i64_in _ (by have := VQ.out.len; omega)
              obtain ⟨d0, d1, -, -, -⟩ := FF.set2 19 (-3 - (i : Int))
              obtain ⟨f0, f1, f2, f3, f4⟩ := FF
              clear kf AP N5 lt m3 m5 sg hvd bE
              go_wp2_with fail
              refine bodyPost_ret (v := .tuple #[.slice none 0 0, .agg #[.int .i64 19, .int .i64 (-3 - (i : Int))]]) (by simp [results, Try.results70, go_sem, d0, d1]) rfl ⟨none, 0, 0, by rw [CF.out.1, CF.out.2], (BE.out.setCell (by dsimp only; omega) _).setCell (by dsimp only; omega) _, fun h => by rw [CF.out.1] at h; cases h⟩
        · have g2 : decide (j < ol.length) = false := by simpa using hjl
          obtain rfl : j = ol.length := by omega
          rw [List.take_length, ← TK.out] at hM
          have NN := Lib.hid (N2.out.trans hM.out)
          have CC : Hid (∀ j (_ : j < i + 1) (hj2 : j < ks.length), Tp.cfh K ks[j] = false) := Lib.hid (fun j' h1 h2 => by
            rcases Nat.lt_or_ge j' i with h3 | h3
            · exact hC.out j' h3 h2
            · obtain rfl : j' = i := by omega
              rw [← HX.out]
              exact cfh_false (fun j hj y hy => hD.out j (by exact hj) hj y (by rwa [Int.toNat_natCast] at hy)))
          clear hM hD
          go_wp2_with fail
          go_roundw
          case rel => exact ⟨i + 1, _, _, hlt, by go_num, NN, CC⟩
          case measure => first | (simp [intOf]; done) | (simp [intOf]; omega)
    · have g1 : decide (i < ks.length) = false := by simpa using hlt
      obtain rfl : i = ks.length := by omega
      rw [List.take_length] at hN
      have hc1 := hN.out.pl.c
      have FF := F3.out.same (hN.out.far PIH.out (b := w.heap.size + 1 + 1) (by omega) (by omega))
      have bE : Below w.heap.size w wr := B3.out.trans (hN.out.bel.mono (by omega))
      have CF : Hid (kfC hs ks = 0 ∧ kfI hs ks = 0) := Lib.hid (kf_none (by rw [← KH.out]; exact cfi_calm (fun j hj => hC.out j hj hj)))
      have BE := Lib.hid ((bE.setCell (p := ⟨w.heap.size + 1 + 1, 0, none⟩) (by dsimp only; omega) (.int .i64 0)).setCell (p := ⟨w.heap.size + 1 + 1, 1, none⟩) (by dsimp only; omega) (.int .i64 0))
      obtain ⟨pp, cc, rfl, hpls⟩ := pls_of (ownsRow_setCell_below (ownsRow_setCell_below hN.out.pl.own (a := ⟨w.heap.size + 1 + 1, 0, none⟩) (by dsimp only; omega) (.int .i64 0)) (a := ⟨w.heap.size + 1 + 1, 1, none⟩) (by dsimp only; omega) (.int .i64 0)) hN.out.st BE.out
      have st := hN.out.st
      rw [KH.out] at st
      have FIN := Lib.hid (And.intro hpls (And.intro hN.out.len (And.intro (plcs_small VP.out VQ.out st) (plcs_cm VP.out VQ.out st))))
      obtain ⟨d0, d1, -, -, -⟩ := FF.set2 0 0
      obtain ⟨f0, f1, f2, f3, f4⟩ := FF
      clear hN hpls st bE
      go_wp2_with fail
      refine bodyPost_ret (v := .tuple #[.slice pp (plcs K ks rs2).length cc, .agg #[.int .i64 0, .int .i64 0]]) (by simp [results, Try.results70, go_sem, d0, d1]) rfl ⟨pp, _, cc, by rw [CF.out.1, CF.out.2], BE.out, fun _ => ⟨plcs K ks rs2, rfl, FIN.out.1, by rw [plcs_len]; exact FIN.out.2.1, by rw [KH.out]; exact FIN.out.2.2.1, by rw [KH.out]; exact FIN.out.2.2.2⟩⟩
end Go.Proofs.Ytbgnckbgpiajjaa
