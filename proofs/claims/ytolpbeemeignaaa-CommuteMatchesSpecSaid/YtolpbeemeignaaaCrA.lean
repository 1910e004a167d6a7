/-
  The reference's moved, news; Rebase, walked.
-/
import Derived.Test.YtolpbeemeignaaaCmE
import Derived.Deep.RegionLaw
namespace Go.Proofs.Ytolpbeemeignaaa
open Go.RowKit
set_option maxRecDepth 4000

set_option maxHeartbeats 1000000 in
theorem refMoved_any (z m : Int) (o1 n1 : Option Addr) (o2 o3 n2 n3 : Nat) (w : World) (h1 : -100000000 ≤ z) (h2 : z ≤ 100000000) (h3 : -100000000 ≤ m) (h4 : m ≤ 100000000) :
    Calls Try.prog 41 #[.agg #[.int .i64 z, .slice o1 o2 o3, .slice n1 n2 n3], .int .i64 m] w (BPost (.agg #[.int .i64 (z + m), .slice o1 o2 o3, .slice n1 n2 n3]) w) := by
  have wz : IntKind.i64.wrap (z + m) = z + m := IntWalk.i64_in _ (by omega)
  have Z : Hz ((w.alloc (.cells #[.int .i64 z, .slice o1 o2 o3, .slice n1 n2 n3] 58 (0, 0))).alloc (.cells #[.int .i64 0, .slice none 0 0, .slice none 0 0] 58 (0, 0))) (w.heap.size + 1) := by
    have := Hz.new (w.alloc (.cells #[.int .i64 z, .slice o1 o2 o3, .slice n1 n2 n3] 58 (0, 0))) 58
    rwa [World.size_alloc] at this
  have U := (Hu.new w z (.slice o1 o2 o3) (.slice n1 n2 n3) 58).up (up_alloc (Below.refl _ _) (.cells #[.int .i64 0, .slice none 0 0, .slice none 0 0] 58 (0, 0)))
  obtain ⟨a0, a1, a2, a3, a4, a5, a6⟩ := Z
  obtain ⟨y0, y1, y2, y3⟩ := U
  go_enter Try.func41, Try.ntmps41
  go_wp2_with fail
  refine bodyPost_ret (v := .agg #[.int .i64 (z + m), .slice o1 o2 o3, .slice n1 n2 n3]) (by simp [results, Try.results41, go_sem]) rfl ⟨rfl, ?_⟩
  (repeat' (first | (with_reducible exact Below.refl _ _) | (with_reducible assumption) | (with_reducible refine below_drewN ?_ _) | (with_reducible refine Below.setCell ?_ ?_ _) | (with_reducible refine Below.alloc ?_ ?_ _) | (with_reducible refine Below.drew ?_) | go_size))

set_option maxRecDepth 100000 in
set_option maxHeartbeats 4000000 in
theorem refNews_any (p : Option Addr) (hs : List Tp.H) (n cap i : Nat) (w : World) (hn : n = hs.length) (hi : i < hs.length) (hp : Ptc w p hs) (hv : Tp.Vp hs) :
    Calls Try.prog 38 #[.agg #[.slice p n cap], .int .i64 (i : Int)] w (BPost (.tuple #[.int .i64 (hs[i].at' + Tp.gr (hs.take i)), .int .i64 (hs[i].at' + Tp.gr (hs.take i) + (hs[i].new.length : Int))]) w) := by
  subst hn
  have HP := Lib.hid hp
  have HV := Lib.hid (vp_bounds hv)
  have hl := hv.len
  have GB : Hid (∀ j, j ≤ i → -(120 * 130 : Int) ≤ Tp.gr (hs.take j) ∧ Tp.gr (hs.take j) ≤ 120 * 130) := Lib.hid (fun j h => by
    have q := Tp.gr_bound (hs.take j) (fun x hx => by have := HV.out x (List.mem_of_mem_take hx); exact ⟨this.2.2.1, this.2.2.2⟩)
    rw [List.length_take] at q
    omega)
  have O1 := One.new w (.slice p hs.length cap) 24 w.heap.size rfl
  have B1 := Lib.hid (up_alloc (Below.refl w.heap.size w) (.cells #[.slice p hs.length cap] 24 (0, 0)))
  have O1H := Lib.hid O1
  have oc := O1.c
  obtain ⟨b, off, rfl, hbb0, ⟨o1, o2, o3⟩, ⟨n1, n2, n3⟩, c0, c1, c2, r1, r2⟩ := HP.out.cell hi
  have l2 := r2.len
  dsimp only at l2
  subst l2
  simp only [sv] at c2
  have d0 := (B1.out.cell (p := ⟨b, off + i * 3, none⟩) hbb0).trans c0
  obtain ⟨v0, v1, v2, v3⟩ := HV.out _ (List.getElem_mem hi)
  have b0 : (0 : Int) ≤ (i : Int) := by omega
  have b1 : (i : Int) < (hs.length : Int) := by omega
  have HI := Lib.hid hi
  obtain ⟨z, hz⟩ : ∃ z, z = (hs[i]'hi).at' := ⟨_, rfl⟩
  obtain ⟨nl, hnl⟩ : ∃ l, l = (hs[i]'hi).new := ⟨_, rfl⟩
  rw [← hz] at c0 d0 v0 v1 ⊢
  rw [← hnl] at c2 v3 ⊢
  have C2 := Lib.hid c2
  have hbbH := Lib.hid hbb0
  clear hp r1 r2 c0 c1 c2 O1 hz hnl
  go_enter Try.func38, Try.ntmps38
  go_wp2_with fail
  go_loopw [6, 7] (fun at' k wr => ∃ j : Nat, j ≤ i ∧ k = .int .i64 j ∧ at' = .int .i64 (z + Tp.gr (hs.take j)) ∧ Hid (Below w.heap.size w wr) ∧ Hid (One wr w.heap.size (.slice (some ⟨b, off, none⟩) hs.length cap))) (fun _ k _ => i - (intOf k).toNat)
  case atStart => exact ⟨0, Nat.zero_le _, rfl, by simp [Tp.gr], B1, O1H⟩
  case round =>
    obtain ⟨j, hj, rfl, rfl, hB, hO⟩ := hrel
    have oc' := hO.out.c
    have c0' : (0 : Int) ≤ (j : Int) := by omega
    by_cases hlt : j < i
    · have g1 : decide (j < i) = true := by simpa using hlt
      have c1' : (j : Int) < (hs.length : Int) := by omega
      obtain ⟨b', off', eb, hbb', ⟨p1, p2, p3⟩, ⟨m1, m2, m3⟩, e0, e1, e2, s1, s2⟩ := (HP.out.mono hB.out).cell (show j < hs.length by have := HI.out; omega)
      injection eb with eb
      injection eb with eb1 eb2 _
      subst eb1 eb2
      have l1 := s1.len
      have l2 := s2.len
      dsimp only at l1 l2
      subst l1 l2
      simp only [sv] at e1 e2
      have hjl : j < hs.length := by have := HI.out; omega
      have GN := Lib.hid (Tp.gr_next hs j hjl)
      obtain ⟨q0, q1, q2, q3⟩ := HV.out _ (List.getElem_mem hjl)
      have q4 := GB.out j (by omega)
      have wz : IntKind.i64.wrap (z + Tp.gr (hs.take j) + ((hs[j].new.length : Int) - hs[j].old.length)) = z + Tp.gr (hs.take j) + ((hs[j].new.length : Int) - hs[j].old.length) := IntWalk.i64_in _ (by omega)
      go_wp2_with fail
      refine (refGrowth_any _ _ _ _ _ _ _ _ (by omega) (by omega)).mono ?_
      rintro e w3 ⟨rfl, hb3⟩
      have B3 := Lib.hid (up_call hB.out hb3)
      have O3 := Lib.hid (hO.out.up hb3)
      clear hb3
      go_wp2_with fail
      go_roundw
      case rel => exact ⟨j + 1, by omega, by go_num, by rw [GN.out, Int.add_assoc], B3, O3⟩
      case measure => first | (simp [intOf]; done) | (simp [intOf]; omega)
    · have g1 : decide (j < i) = false := by simpa using hlt
      obtain rfl : j = i := by omega
      have q4 := GB.out j (Nat.le_refl _)
      have d2 := (hB.out.cell (p := ⟨b, off + j * 3 + 2, none⟩) hbbH.out).trans C2.out
      have wz : IntKind.i64.wrap (z + Tp.gr (hs.take j) + (nl.length : Int)) = z + Tp.gr (hs.take j) + (nl.length : Int) := IntWalk.i64_in _ (by omega)
      go_wp2_with fail
      go_quiet (fail)
      go_wp2_with fail
      refine bodyPost_ret (v := .tuple #[.int .i64 (z + Tp.gr (hs.take j)), .int .i64 (z + Tp.gr (hs.take j) + (nl.length : Int))]) (by simp [results, Try.results38, go_sem]) rfl ⟨rfl, below_drewN hB.out _⟩

/-- the rows of the first k hunks of ms -/
structure Rw (ms : List Tp.H) (w : World) (rs : List (Int × Sv × Sv)) (k : Nat) : Prop where
  len : rs.length = k
  all : ∀ (j : Nat) (h : j < rs.length) (h' : j < ms.length), (rs[j]).1 = (ms[j]).at' ∧ Rd w (rs[j]).2.1 (ms[j]).old ∧ Rd w (rs[j]).2.2 (ms[j]).new
theorem Rw.start (ms : List Tp.H) (w : World) : Rw ms w [] 0 := ⟨rfl, fun j h => by simp at h⟩
theorem Rw.push {ms : List Tp.H} {w : World} {rs : List (Int × Sv × Sv)} {k : Nat} (h : Rw ms w rs k) (hk : k < ms.length) {a : Int} {o n : Sv} (ha : a = ms[k].at') (ho : Rd w o ms[k].old) (hn : Rd w n ms[k].new) : Rw ms w (rs ++ [(a, o, n)]) (k + 1) := by
  refine ⟨by rw [List.length_append, h.len]; rfl, fun j hj h' => ?_⟩
  rcases Nat.lt_or_ge j rs.length with c | c
  · rw [List.getElem_append_left c]
    exact h.all j c h'
  · have : j = k := by have := h.len; simp at hj; omega
    subst this
    have e := h.len
    subst e
    rw [List.getElem_append_right (Nat.le_refl _)]
    simp only [Nat.sub_self, List.getElem_cons_zero]
    exact ⟨ha, ho, hn⟩
theorem rw_ptc {ms : List Tp.H} {w W : World} {base : Nat} {v : Value} {rs : List (Int × Sv × Sv)} (h2 : OwnE hkE base W v rs) (h3 : Rw ms w rs ms.length) (hb : Below w.heap.size w W) :
    ∃ p cap, v = .slice p ms.length cap ∧ Ptc W p ms ∧ (p = none → cap = 0) ∧ ms.length ≤ cap := by
  obtain ⟨p, cap, e, hr, hc, hn, -⟩ := row_of_own h2
  have e1 := h3.len
  refine ⟨p, cap, by rw [← e1, ← e], ⟨fun hp => List.length_eq_zero_iff.1 (by rw [← e1, hr.nil' hp]; rfl), fun hne => ?_⟩, hc, by rw [← e1]; exact hn⟩
  obtain ⟨b, off, k1, k2, k3⟩ := hr.at' (fun e => hne (List.length_eq_zero_iff.1 (by rw [← e1, e]; rfl)))
  refine ⟨b, off, k1, k2, fun i hi => ?_⟩
  have hi' : i < rs.length := by omega
  obtain ⟨q1, q2, q3⟩ := h3.all i hi' hi
  have kk := k3 i hi'
  refine ⟨(rs[i]).2.1, (rs[i]).2.2, ?_, kk 1 _ rfl, kk 2 _ rfl, q2.mono hb, q3.mono hb⟩
  have k0 : W.cell? ⟨b, off + i * 3, none⟩ = some (.int .i64 (rs[i]).1) := kk 0 _ rfl
  rw [k0, q1]
/-- the out patch's block behind an append and the store -/
theorem rw_put {C pg g cc m : Nat} {v : Value} {w w3 : World} {rs : List (Int × Sv × Sv)} {r : Int × Sv × Sv} (og : One w pg v) (own : OwnE hkE C w v rs) (hp : pg < C) (hC : C ≤ w.heap.size) (hm : m = rs.length)
    (own2 : OwnE hkE C w3 (.slice (some ⟨g, 0, none⟩) (rs.length + 1) cc) (rs ++ [r])) (G2 : w.grownBy w3 v.ownBlock) :
    One (w3.setCell ⟨pg, 0, none⟩ (.slice (some ⟨g, 0, none⟩) (m + 1) cc)) pg (.slice (some ⟨g, 0, none⟩) (m + 1) cc) ∧ OwnE hkE C (w3.setCell ⟨pg, 0, none⟩ (.slice (some ⟨g, 0, none⟩) (m + 1) cc)) (.slice (some ⟨g, 0, none⟩) (m + 1) cc) (rs ++ [r]) ∧
      Below pg w (w3.setCell ⟨pg, 0, none⟩ (.slice (some ⟨g, 0, none⟩) (m + 1) cc)) := by
  subst hm
  have hv : v.ownBlock ≠ some pg := fun e => by have := own_block own _ e; omega
  have z1 := G2.cell og.c (Ne.symm hv)
  have z2 : w3.frozen? ⟨pg, 0, none⟩ = false := by rw [G2.frozen_far ⟨pg, 0, none⟩ (by dsimp only; omega) (Ne.symm hv), og.f]
  refine ⟨⟨World.cell?_setCell_same _ _ _ z1, by rw [World.frozen?_setCell]; exact z2⟩, ownsRow_setCell_below own2 (a := ⟨pg, 0, none⟩) (by dsimp only; omega) _, ?_⟩
  exact ((Below.refl pg w).grown G2 (by omega) fun b hb => by have := own_block own _ hb; omega).setCell (by dsimp only; omega) _

theorem t1_both {x : Tp.H} {y z e f : Int} (hz : z = x.at') (hf : f = Tp.en x) : Tp.t1 x ⟨y, e, 0⟩ = (decide (z ≤ e) && decide (y ≤ f)) := by subst hz hf; rfl
theorem tch_at {qs : List Tp.H} {cs : List Tp.Cg} (j : Nat) (hj : j < qs.length) (i : Nat) (hi : i < cs.length) (h : Tp.t1 qs[j] cs[i] = true) : Tp.tch qs cs = true :=
  List.any_eq_true.2 ⟨qs[j], List.getElem_mem hj, List.any_eq_true.2 ⟨cs[i], List.getElem_mem hi, h⟩⟩
theorem tch_none {qs : List Tp.H} {cs : List Tp.Cg} (h : ∀ j (hj : j < qs.length), cs.any (Tp.t1 qs[j]) = false) : Tp.tch qs cs = false := by
  unfold Tp.tch
  rw [List.any_eq_false]
  intro x hx
  obtain ⟨j, hj, rfl⟩ := List.mem_iff_getElem.1 hx
  rw [h j hj]; decide
/-- the inner loops: what is known of the first i changes -/
structure Gin (h : Tp.H) (cs : List Tp.Cg) (i : Nat) (n : Int) : Prop where
  n' : n = Tp.gb h.at' (cs.take i)
  no : (cs.take i).any (Tp.t1 h) = false
theorem Gin.start (h : Tp.H) (cs : List Tp.Cg) : Gin h cs 0 0 := ⟨rfl, rfl⟩
theorem Gin.next {h : Tp.H} {cs : List Tp.Cg} {i : Nat} {n : Int} (k : Gin h cs i n) (hi : i < cs.length) (hn : Tp.t1 h cs[i] = false) : Gin h cs (i + 1) (n + (if cs[i].to < h.at' then cs[i].gr else 0)) :=
  ⟨by rw [gb_next h.at' cs i hi, k.n'], by rw [any_take hi k.no]; exact hn⟩

set_option maxRecDepth 100000 in
set_option maxHeartbeats 16000000 in
theorem refRebase_any (p q : Option Addr) (hs ks : List Tp.H) (n cap m cap' : Nat) (w : World) (hn : n = hs.length) (hm : m = ks.length) (hp : Ptc w p hs) (hq : Ptc w q ks) (hl : hs.length ≤ 2513169434845) (hl' : ks.length ≤ 2513169434845) :
    Calls Try.prog 16 #[.agg #[.slice p n cap], .agg #[.slice q m cap']] w (RbPost hs ks w) := by
  subst hn hm
  have HP := Lib.hid hp
  have HQ := Lib.hid hq
  clear hp hq
  have hfd := field0
  have up0 : Below w.heap.size w ((((w.alloc (.cells #[.slice p hs.length cap] 24 (0, 0))).alloc (.cells #[.slice q ks.length cap'] 24 (0, 0))).alloc (.cells #[.slice none 0 0] 24 (0, 0))).alloc (.cells #[.int .i64 0, .int .i64 0] 26 (0, 0))) := up_alloc (up_alloc (up_alloc (up_alloc (Below.refl _ _) _) _) _) _
  have O0 := Lib.hid (((One.new w (.slice p hs.length cap) 24 w.heap.size rfl).alloc (.cells #[.slice q ks.length cap'] 24 (0, 0))).alloc (.cells #[.slice none 0 0] 24 (0, 0)) |>.alloc (.cells #[.int .i64 0, .int .i64 0] 26 (0, 0)))
  have S0 := Lib.hid ((One.new (w.alloc (.cells #[.slice p hs.length cap] 24 (0, 0))) (.slice q ks.length cap') 24 (w.heap.size + 1) (by simp)).alloc (.cells #[.slice none 0 0] 24 (0, 0)) |>.alloc (.cells #[.int .i64 0, .int .i64 0] 26 (0, 0)))
  have R0 := Lib.hid ((One.new ((w.alloc (.cells #[.slice p hs.length cap] 24 (0, 0))).alloc (.cells #[.slice q ks.length cap'] 24 (0, 0))) (.slice none 0 0) 24 (w.heap.size + 1 + 1) (by simp)).alloc (.cells #[.int .i64 0, .int .i64 0] 26 (0, 0)))
  have F0 : Hid (Flt ((((w.alloc (.cells #[.slice p hs.length cap] 24 (0, 0))).alloc (.cells #[.slice q ks.length cap'] 24 (0, 0))).alloc (.cells #[.slice none 0 0] 24 (0, 0))).alloc (.cells #[.int .i64 0, .int .i64 0] 26 (0, 0))) (w.heap.size + 1 + 1 + 1) 0 0) := by
    have := Flt.new (((w.alloc (.cells #[.slice p hs.length cap] 24 (0, 0))).alloc (.cells #[.slice q ks.length cap'] 24 (0, 0))).alloc (.cells #[.slice none 0 0] 24 (0, 0))) 0 0 26
    rw [World.size_alloc, World.size_alloc, World.size_alloc] at this
    exact this
  go_enter Try.func16, Try.ntmps16
  go_wp2_with fail
  obtain ⟨w0, hw0⟩ : ∃ w0, w0 = (((w.alloc (.cells #[.slice p hs.length cap] 24 (0, 0))).alloc (.cells #[.slice q ks.length cap'] 24 (0, 0))).alloc (.cells #[.slice none 0 0] 24 (0, 0))).alloc (.cells #[.int .i64 0, .int .i64 0] 26 (0, 0)) := ⟨_, rfl⟩
  rw [← hw0] at up0 O0 S0 R0 F0 ⊢
  clear hw0
  have oc := O0.out.c
  have sc := S0.out.c
  go_wp2_with fail
  refine (refPair_any p q hs ks _ cap _ cap' _ rfl rfl (HP.out.mono up0) (HQ.out.mono up0) hl hl').mono ?_
  rintro e w1 ⟨rfl, hb1⟩
  have u1 := up_call up0 hb1
  have O1 := Lib.hid (O0.out.up hb1)
  have S1 := Lib.hid (S0.out.up hb1)
  have R1 := Lib.hid (R0.out.up hb1)
  have F1 := Lib.hid (F0.out.up hb1)
  have hf1 := F1.out.lt
  clear up0 hb1 O0 S0 R0 F0 oc sc
  by_cases hp0 : Tp.prC hs ks = 0
  · have HP0 := Lib.hid hp0
    have VV := Lib.hid (Tp.prC_zero.1 hp0)
    rw [hp0]
    clear hp0
    have bb := up_alloc (up_alloc (Below.refl w1.heap.size w1) (.cells #[.int .i64 0, .int .i64 (Tp.prI hs ks)] 26 (0, 0))) (.cells #[.slice none 0 0] 24 (0, 0))
    have O2 := Lib.hid (O1.out.up bb)
    have S2 := Lib.hid (S1.out.up bb)
    have R2 := Lib.hid (R1.out.up bb)
    have F2 := Lib.hid (F1.out.up bb)
    have G2 := Lib.hid (One.new (w1.alloc (.cells #[.int .i64 0, .int .i64 (Tp.prI hs ks)] 26 (0, 0))) (.slice none 0 0) 24 (w1.heap.size + 1) (by simp))
    have u2 := Lib.hid (up_call u1 bb)
    have z2 : ((w1.alloc (.cells #[.int .i64 0, .int .i64 (Tp.prI hs ks)] 26 (0, 0))).alloc (.cells #[.slice none 0 0] 24 (0, 0))).heap.size = w1.heap.size + 1 + 1 := by simp
    clear O1 S1 R1 F1 u1 bb
    go_wp2_with fail
    obtain ⟨w2, hw2⟩ : ∃ w2, w2 = (w1.alloc (.cells #[.int .i64 0, .int .i64 (Tp.prI hs ks)] 26 (0, 0))).alloc (.cells #[.slice none 0 0] 24 (0, 0)) := ⟨_, rfl⟩
    rw [← hw2] at O2 S2 R2 F2 G2 u2 z2 ⊢
    clear hw2
    obtain ⟨pg, hpg⟩ : ∃ pg, pg = w1.heap.size + 1 := ⟨_, rfl⟩
    rw [← hpg] at G2 z2 ⊢
    have hpw : w.heap.size + 1 + 1 + 1 < pg := by omega
    clear hpg hf1
    go_loopw [9] (fun jj wr => ∃ (j : Nat) (v : Value) (rs : List (Int × Sv × Sv)), j ≤ hs.length ∧ jj = .int .i64 j ∧ Hid (One wr pg v) ∧ Hid (OwnE hkE (pg + 1) wr v rs) ∧ Hid (Rw (Tp.bh hs (Tp.cg ks)) w rs j) ∧ Hid (Below pg w2 wr) ∧ Hid (∀ i (hi : i < hs.length), i < j → (Tp.cg ks).any (Tp.t1 hs[i]) = false) ∧ pg < wr.heap.size) (fun jj _ => hs.length - (intOf jj).toNat)
    case atStart => exact ⟨0, _, [], Nat.zero_le _, rfl, G2, Lib.hid (ownE_nil _ _ _), Lib.hid (Rw.start _ _), Lib.hid (Below.refl _ _), Lib.hid (fun i _ h => by omega), by omega⟩
    case round =>
      obtain ⟨j, v, rs, hj, rfl, hO, hW, hR, hB, hN, hpr⟩ := hrel
      have uw := Lib.hid (u2.out.trans (hB.out.mono (show w.heap.size ≤ pg by omega)))
      have O3 := Lib.hid (O2.out.mono hB.out (by omega))
      have S3 := Lib.hid (S2.out.mono hB.out (by omega))
      have R3 := Lib.hid (R2.out.mono hB.out (by omega))
      have F3 := Lib.hid (F2.out.mono hB.out (by omega))
      have oc := O3.out.c
      have b0 : (0 : Int) ≤ (j : Int) := by omega
      by_cases hlt : j < hs.length
      · have g1 : decide (j < hs.length) = true := by simpa using hlt
        have b1 : (j : Int) < (hs.length : Int) := by omega
        obtain ⟨b, off, rfl, hbb0, ⟨o1, o2, o3⟩, ⟨n1, n2, n3⟩, c0, c1, c2, r1, r2⟩ := HP.out.cell hlt
        have l1 := r1.len
        have l2 := r2.len
        dsimp only at l1 l2
        subst l1 l2
        simp only [sv] at c1 c2
        have RD := Lib.hid (And.intro r1 r2)
        have hbw : b < wr.heap.size := Nat.lt_of_lt_of_le hbb0 uw.out.size
        have HBW := Lib.hid hbw
        have C0 := Lib.hid ((uw.out.cell (p := ⟨b, off + j * 3, none⟩) hbb0).trans c0)
        have C1 := Lib.hid ((uw.out.cell (p := ⟨b, off + j * 3 + 1, none⟩) hbb0).trans c1)
        have C2 := Lib.hid ((uw.out.cell (p := ⟨b, off + j * 3 + 2, none⟩) hbb0).trans c2)
        clear c0 c1 c2 r1 r2
        have BV := Lib.hid (vp_bounds VV.out.1 _ (List.getElem_mem hlt))
        have HLT := Lib.hid hlt
        have hbl : j < (Tp.bh hs (Tp.cg ks)).length := by rw [bh_len]; exact hlt
        have HBL := Lib.hid hbl
        have EM := Lib.hid (bh_get hs (Tp.cg ks) j hlt HBL.out)
        have TC := Lib.hid (fun i hi => tch_at (cs := Tp.cg ks) j hlt i hi)
        have hcl : (Tp.cg ks).length = ks.length := by unfold Tp.cg; rw [List.length_map]
        have HCL := Lib.hid hcl
        have GBD := Lib.hid (fun i => gb_bd (bc_cg (bd_of VV.out.2)) (hs[j]'hlt).at' i)
        obtain ⟨hj', hx⟩ : ∃ x, x = hs[j]'hlt := ⟨_, rfl⟩
        have NN : Hid (∀ i (hi : i < hs.length), i < j + 1 → (Tp.cg ks).any (Tp.t1 hj') = false → (Tp.cg ks).any (Tp.t1 hs[i]) = false) := Lib.hid (fun i hi h1 h2 => by
          by_cases e : i < j
          · exact hN.out i hi e
          · have : i = j := by omega
            subst this; rw [← hx]; exact h2)
        rw [← hx] at C0 C1 C2 RD BV EM TC GBD
        clear hx hcl hbl
        obtain ⟨z, ol, nl⟩ := hj'
        dsimp only at C0 C1 C2 RD BV EM GBD
        obtain ⟨wo, rfl⟩ : ∃ wo, wo = wr := ⟨_, rfl⟩
        go_wp2_with fail
        go_loopw [10, 11] (fun nn ii wq => ∃ (i : Nat) (g : Int), i ≤ ks.length ∧ ii = .int .i64 i ∧ nn = .int .i64 g ∧ Hid (Gin ⟨z, ol, nl⟩ (Tp.cg ks) i g) ∧ Hid (Below wo.heap.size wo wq)) (fun _ ii _ => ks.length - (intOf ii).toNat)
        case atStart => exact ⟨0, 0, Nat.zero_le _, rfl, rfl, Lib.hid (Gin.start _ _), Lib.hid (Below.refl _ _)⟩
        case round =>
          obtain ⟨i, g, hi, rfl, rfl, hG, hBq⟩ := hrel
          have c0' : (0 : Int) ≤ (i : Int) := by omega
          have hzq := hBq.out.size
          have O4 := Lib.hid (O3.out.up hBq.out)
          have S4 := Lib.hid (S3.out.up hBq.out)
          have oc4 := O4.out.c
          have sc4 := S4.out.c
          have D0 := Lib.hid ((hBq.out.cell (p := ⟨b, off + j * 3, none⟩) HBW.out).trans C0.out)
          have D1 := Lib.hid ((hBq.out.cell (p := ⟨b, off + j * 3 + 1, none⟩) HBW.out).trans C1.out)
          have D2 := Lib.hid ((hBq.out.cell (p := ⟨b, off + j * 3 + 2, none⟩) HBW.out).trans C2.out)
          have uq := Lib.hid (up_call uw.out hBq.out)
          by_cases hik : i < ks.length
          · have g2 : decide (i < ks.length) = true := by simpa using hik
            have b2 : (i : Int) < (ks.length : Int) := by omega
            obtain ⟨bq, oq, rfl, hbq0, ⟨p1, p2, p3⟩, ⟨m1, m2, m3⟩, e0, e1, e2, s1, s2⟩ := HQ.out.cell hik
            replace e0 := (uq.out.cell (p := ⟨bq, oq + i * 3, none⟩) hbq0).trans e0
            replace e1 := (uq.out.cell (p := ⟨bq, oq + i * 3 + 1, none⟩) hbq0).trans e1
            replace e2 := (uq.out.cell (p := ⟨bq, oq + i * 3 + 2, none⟩) hbq0).trans e2
            have l1 := s1.len
            have l2 := s2.len
            dsimp only at l1 l2
            subst l1 l2
            simp only [sv] at e1 e2
            have BK := Lib.hid (vp_bounds VV.out.2 _ (List.getElem_mem hik))
            have hic : i < (Tp.cg ks).length := by rw [HCL.out]; exact hik
            have ek : (Tp.cg ks)[i]'hic = Tp.chg (ks[i]'hik) := by simp [Tp.cg]
            have NXT := Lib.hid (fun h => hG.out.next hic h)
            have TCI := Lib.hid (fun h => TC.out i hic h)
            have hgb := GBD.out i
            rw [← hG.out.n'] at hgb
            have HIK := Lib.hid hik
            obtain ⟨ki, hx⟩ : ∃ x, x = ks[i]'hik := ⟨_, rfl⟩
            rw [← hx] at e0 e1 e2 BK ek
            rw [ek] at NXT TCI
            clear hx s1 s2 ek
            obtain ⟨y, xl, yl⟩ := ki
            dsimp only at e0 e1 e2 BK NXT TCI
            obtain ⟨v0, v1, v2, v3⟩ := BV.out
            obtain ⟨k0, k1, k2, k3⟩ := BK.out
            have T1 := Lib.hid (show Tp.t1 ⟨z, ol, nl⟩ (Tp.chg ⟨y, xl, yl⟩) = (decide (z ≤ y + (xl.length : Int)) && decide (y ≤ z + (ol.length : Int))) from rfl)
            have NX2 : Hid (Tp.t1 ⟨z, ol, nl⟩ (Tp.chg ⟨y, xl, yl⟩) = false → ∀ d : Int, d = (if y + (xl.length : Int) < z then (yl.length : Int) - xl.length else 0) → Gin ⟨z, ol, nl⟩ (Tp.cg ks) (i + 1) (g + d)) := Lib.hid (fun h d hd => by subst hd; exact NXT.out h)
            clear NXT
            have U4 := Lib.hid (Hu.new wr y (.slice p1 xl.length p3) (.slice m1 yl.length m3) 58)
            have ba := up_alloc (Below.refl wr.heap.size wr) (.cells #[.int .i64 y, .slice p1 xl.length p3, .slice m1 yl.length m3] 58 (0, 0))
            have O5 := Lib.hid (O4.out.up ba)
            have D0' := Lib.hid ((ba.cell (p := ⟨b, off + j * 3, none⟩) (cell_block_lt D0.out)).trans D0.out)
            have D1' := Lib.hid ((ba.cell (p := ⟨b, off + j * 3 + 1, none⟩) (cell_block_lt D1.out)).trans D1.out)
            have D2' := Lib.hid ((ba.cell (p := ⟨b, off + j * 3 + 2, none⟩) (cell_block_lt D2.out)).trans D2.out)
            have BX := Lib.hid (up_call hBq.out ba)
            have hgm : -1000000 ≤ g ∧ g ≤ 1000000 := hgb
            clear D0 D1 D2 O4 S4 ba hgb
            go_wp2_with fail
            obtain ⟨X, hX⟩ : ∃ X, X = wr.alloc (.cells #[.int .i64 y, .slice p1 xl.length p3, .slice m1 yl.length m3] 58 (0, 0)) := ⟨_, rfl⟩
            rw [← hX] at U4 O5 D0' D1' D2' BX ⊢
            clear hX e0 e1 e2 oc4 sc4
            have CE1 := fun n => over_call (refEnd_any y p1 m1 xl.length p3 yl.length m3 (over X n) (by omega) (by omega) (by omega))
            have CE2 := fun n => over_call (refEnd_any z o1 n1 ol.length o3 nl.length n3 (over X n) (by omega) (by omega) (by omega))
            have r1 := over_cell U4.out.lt U4.out.c0
            have r2 := over_cell U4.out.lt U4.out.c1
            have r3 := over_cell U4.out.lt U4.out.c2
            have r4 := over_cell O5.out.lt O5.out.c
            have r5 := over_cell (cell_block_lt D0'.out) D0'.out
            have r6 := over_cell (cell_block_lt D1'.out) D1'.out
            have r7 := over_cell (cell_block_lt D2'.out) D2'.out
            by_cases hA : z ≤ y + (xl.length : Int)
            · have gA : decide (z ≤ y + (xl.length : Int)) = true := by simpa using hA
              by_cases hBt : y ≤ z + (ol.length : Int)
              · have gB : decide (y ≤ z + (ol.length : Int)) = true := by simpa using hBt
                have ht := TCI.out (by rw [T1.out, gA, gB]; rfl)
                have E := Lib.hid (Tp.r_touch HP0.out ht)
                clear ht hA hBt
                refine over_lit (by kernel_rfl) (by kernel_rfl) ?_
                repeat (go_big_quiet_step (first | (go_at_call_of 39 p1; exact CE1 _) | (go_at_call_of 39 o1; exact CE2 _)))
                refine wpQuiet_nil ?_
                rintro _ ⟨nq, rfl⟩
                have bx := over_below X nq
                have RY := (R3.out.up (BX.out.trans (bx.mono BX.out.size)))
                have FY := (F3.out.up (BX.out.trans (bx.mono BX.out.size)))
                have uY := up_call uw.out (BX.out.trans (bx.mono BX.out.size))
                clear r1 r2 r3 r4 r5 r6 r7 CE1 CE2 bx
                generalize over X nq = Y at RY FY uY ⊢
                obtain ⟨dr, d0, d1⟩ := put_both (v := .slice none 0 0) FY RY (by omega) 0 0
                have rc := RY.c
                have rf := RY.f
                obtain ⟨a0, a1, a2, a3, a4⟩ := FY
                go_wp2_with fail
                refine bodyPost_ret (v := .tuple #[.agg #[.slice none 0 0], .bool false, .agg #[.int .i64 0, .int .i64 0]]) (by simp [results, Try.results16, go_sem, d0, d1, dr]) rfl ⟨none, 0, by rw [E.out.1, E.out.2.1, E.out.2.2.1, E.out.2.2.2]; rfl, by rw [E.out.2.2.2]; exact ptc_none _, fun _ => rfl, by rw [E.out.2.2.2]; exact Nat.le_refl _, ?_⟩
                (repeat' (first | (with_reducible exact Below.refl _ _) | (with_reducible assumption) | (with_reducible refine below_drewN ?_ _) | (with_reducible refine Below.setCell ?_ ?_ _) | (with_reducible refine Below.alloc ?_ ?_ _) | (with_reducible refine Below.drew ?_) | go_size))
              · have gB : decide (y ≤ z + (ol.length : Int)) = false := by simpa using hBt
                have gC : decide (y + (xl.length : Int) < z) = false := by simp; omega
                have N3 := Lib.hid (NX2.out (by rw [T1.out, gA, gB]; rfl) 0 (by rw [if_neg (by omega)]))
                clear hA hBt
                refine over_lit (by kernel_rfl) (by kernel_rfl) ?_
                repeat (go_big_quiet_step (first | (go_at_call_of 39 p1; exact CE1 _) | (go_at_call_of 39 o1; exact CE2 _)))
                refine wpQuiet_nil ?_
                rintro _ ⟨nq, rfl⟩
                have bx := over_below X nq
                have U6 := Lib.hid (U4.out.up bx)
                have O6 := Lib.hid (O5.out.up bx)
                have D0y := Lib.hid ((bx.cell (p := ⟨b, off + j * 3, none⟩) (cell_block_lt D0'.out)).trans D0'.out)
                have BY := Lib.hid (BX.out.trans (bx.mono BX.out.size))
                clear r1 r2 r3 r4 r5 r6 r7 CE1 CE2 bx
                generalize over X nq = Y at U6 O6 D0y BY ⊢
                go_wp2_with fail
                have CE3 := fun n => over_call (refEnd_any y p1 m1 xl.length p3 yl.length m3 (over Y n) (by omega) (by omega) (by omega))
                have r1 := over_cell U6.out.lt U6.out.c0
                have r2 := over_cell U6.out.lt U6.out.c1
                have r3 := over_cell U6.out.lt U6.out.c2
                have r4 := over_cell O6.out.lt O6.out.c
                have r5 := over_cell (cell_block_lt D0y.out) D0y.out
                refine over_lit (by kernel_rfl) (by kernel_rfl) ?_
                repeat (go_big_quiet_step ((go_at_call 39; exact CE3 _)))
                refine wpQuiet_nil ?_
                rintro _ ⟨nq2, rfl⟩
                have BZ := Lib.hid (BY.out.trans ((over_below Y nq2).mono BY.out.size))
                clear r1 r2 r3 r4 r5 CE3
                generalize over Y nq2 = Z at BZ ⊢
                go_wp2_with fail
                go_roundw
                case rel => exact ⟨i + 1, g, HIK.out, by go_num, rfl, Lib.hid (by have := N3.out; rwa [Int.add_zero] at this), BZ⟩
                case measure => first | (simp [intOf]; done) | (simp [intOf]; omega)
            · have gA : decide (z ≤ y + (xl.length : Int)) = false := by simpa using hA
              have gC : decide (y + (xl.length : Int) < z) = true := by simp; omega
              have N3 := Lib.hid (NX2.out (by rw [T1.out, gA]; rfl) ((yl.length : Int) - (xl.length : Int)) (by rw [if_pos (by omega)]))
              have wg : IntKind.i64.wrap (g + ((yl.length : Int) - (xl.length : Int))) = g + ((yl.length : Int) - (xl.length : Int)) := IntWalk.i64_in _ (by omega)
              clear hA
              refine over_lit (by kernel_rfl) (by kernel_rfl) ?_
              repeat (go_big_quiet_step (first | (go_at_call_of 39 p1; exact CE1 _) | (go_at_call_of 39 o1; exact CE2 _)))
              refine wpQuiet_nil ?_
              rintro _ ⟨nq, rfl⟩
              have bx := over_below X nq
              have U6 := Lib.hid (U4.out.up bx)
              have O6 := Lib.hid (O5.out.up bx)
              have D0y := Lib.hid ((bx.cell (p := ⟨b, off + j * 3, none⟩) (cell_block_lt D0'.out)).trans D0'.out)
              have BY := Lib.hid (BX.out.trans (bx.mono BX.out.size))
              clear r1 r2 r3 r4 r5 r6 r7 CE1 CE2 bx
              generalize over X nq = Y at U6 O6 D0y BY ⊢
              go_wp2_with fail
              have CE3 := fun n => over_call (refEnd_any y p1 m1 xl.length p3 yl.length m3 (over Y n) (by omega) (by omega) (by omega))
              have r1 := over_cell U6.out.lt U6.out.c0
              have r2 := over_cell U6.out.lt U6.out.c1
              have r3 := over_cell U6.out.lt U6.out.c2
              have r4 := over_cell O6.out.lt O6.out.c
              have r5 := over_cell (cell_block_lt D0y.out) D0y.out
              refine over_lit (by kernel_rfl) (by kernel_rfl) ?_
              repeat (go_big_quiet_step ((go_at_call 39; exact CE3 _)))
              refine wpQuiet_nil ?_
              rintro _ ⟨nq2, rfl⟩
              have BZ := Lib.hid (BY.out.trans ((over_below Y nq2).mono BY.out.size))
              have U7 := U6.out.up (over_below Y nq2)
              clear r1 r2 r3 r4 r5 CE3
              generalize over Y nq2 = Z at BZ U7 ⊢
              obtain ⟨x0, x1, x2, x3⟩ := U7
              go_wp2_with fail
              refine (refGrowth_any y p1 m1 xl.length p3 yl.length m3 _ (by omega) (by omega)).mono ?_
              rintro e w7 ⟨rfl, hb7⟩
              have BW := Lib.hid (up_call BZ.out hb7)
              clear hb7 x0 x1 x2 x3
              go_wp2_with fail
              go_roundw
              case rel => exact ⟨i + 1, g + ((yl.length : Int) - (xl.length : Int)), HIK.out, by go_num, rfl, N3, BW⟩
              case measure => first | (simp [intOf]; done) | (simp [intOf]; omega)
          · have g2 : decide (i < ks.length) = false := by simpa using hik
            obtain rfl : i = ks.length := by omega
            have hgv := hG.out.n'
            have hgn := hG.out.no
            rw [← HCL.out, List.take_length] at hgv hgn
            have hgb := GBD.out (Tp.cg ks).length
            rw [List.take_length, ← hgv] at hgb
            obtain ⟨v0, v1, v2, v3⟩ := BV.out
            have OQ := Lib.hid (hO.out.up hBq.out)
            have WQ := Lib.hid (hW.out.up hBq.out)
            have gc := OQ.out.c
            have gf := OQ.out.f
            have hpq : pg < wr.heap.size := by omega
            have hrl := hR.out.len
            have hl130 := VV.out.1.len
            have PUSH := Lib.hid (hR.out.push HBL.out (a := z + g) (by rw [EM.out, hgv]) (by rw [EM.out]; exact RD.out.1) (by rw [EM.out]; exact RD.out.2))
            have NNQ := Lib.hid (fun i hi h1 => NN.out i hi h1 hgn)
            have hvl : v.ownBlock ≠ some pg := fun e => by have := own_block hW.out _ e; omega
            have HVL := Lib.hid hvl
            have MV := Lib.hid (fun X => refMoved_any z g o1 n1 ol.length o3 nl.length n3 X (by omega) (by omega) (by omega) (by omega))
            have d0 := D0.out
            have d1 := D1.out
            have d2 := D2.out
            have bO := cell_block_lt oc4
            have bD := cell_block_lt d0
            clear hG hgn hgv
            go_wp2_with fail
            go_region_law (first
              | (refine step_appE hkE _ (by rfl) (.tmp 76) (.tmp 84) (by rfl) (pg + 1) v rs ((z + g), (o1, ol.length, o3), (n1, nl.length, n3)) ⟨wA.heap.size, 0, none⟩ 1 (by rfl) (WA.out.alloc _) (by rfl) (hunk_one _ _ (o1, ol.length, o3) (n1, nl.length, n3) _) (by simp [hkE]; omega) (by first | omega | (simp; omega)) (by simp; omega) (wA.heap.size + 1) (by simp) ?_
                 intro gg cc w3 own2 gr2 hat2 hlt2
                 have G3 : World.grownBy wA w3 v.ownBlock := by refine grow_trans ?_ gr2; exact ⟨rfl, rfl, rfl, by simp, fun k hk _ => Below.heap_alloc _ _ _ hk⟩
                 have s3 := G3.cell gcA (Ne.symm HVL.out)
                 have s4 : w3.frozen? ⟨pg, 0, none⟩ = false := by rw [G3.frozen_far ⟨pg, 0, none⟩ (by dsimp only; omega) (Ne.symm HVL.out), gfA])
              | (go_simp
                 go_at_call 41
                 refine (MV.out _).mono ?_
                 rintro e wA ⟨rfl, hbA⟩
                 have BA : Hid (Below wr.heap.size wr wA) := Lib.hid ((Below.refl _ _).drew.trans hbA)
                 have OA := Lib.hid (OQ.out.up BA.out)
                 have WA := Lib.hid (WQ.out.up BA.out)
                 have gcA := OA.out.c
                 have gfA := OA.out.f
                 have hzA := BA.out.size
                 have qA := cell_up gcA (.cells #[.int .i64 (z + g), .slice o1 ol.length o3, .slice n1 nl.length n3] 58 (0, 0))
                 clear hbA))
            all_goals
              have PT := Lib.hid (rw_put (m := j) OA.out WA.out (by omega) (by omega) hrl.symm own2 G3)
              clear own2 gr2 hat2 G3 s3 s4
              go_wp2_with fail
              go_roundw
              case rel => exact ⟨j + 1, _, _, HLT.out, by go_num, Lib.hid PT.out.1, Lib.hid PT.out.2.1, PUSH, Lib.hid ((hB.out.trans ((hBq.out.trans (BA.out.mono (by omega))).mono (by omega))).trans PT.out.2.2), NNQ, by have := PT.out.2.2.size; omega⟩
              case measure => first | (simp [intOf]; done) | (simp [intOf]; omega)
      · have g1 : decide (j < hs.length) = false := by simpa using hlt
        obtain rfl : j = hs.length := by omega
        have HT := Lib.hid (tch_none (fun i hi => hN.out i hi hi))
        obtain ⟨pv, cv, rfl, hpt, hcv, hlv⟩ := rw_ptc hW.out (by rw [bh_len]; exact hR.out) uw.out
        have HPT := Lib.hid hpt
        have HCV := Lib.hid (And.intro hcv hlv)
        have HW := Lib.hid hW.out
        have gc := hO.out.c
        have hml : (Tp.bh hs (Tp.cg ks)).length ≤ 2513169434845 := by rw [bh_len]; omega
        obtain ⟨ms, hms⟩ : ∃ ms, ms = Tp.bh hs (Tp.cg ks) := ⟨_, rfl⟩
        rw [← hms] at HPT HCV hml hR gc HW hO
        have HMS := Lib.hid hms
        have HRW : Hid (Rw ms w rs ms.length) := Lib.hid (by rw [hms, bh_len, ← hms]; exact hR.out)
        clear hpt hcv hlv hlt hms hR
        go_wp2_with fail
        refine (refPatchFault_any pv ms _ cv _ rfl HPT.out hml).mono ?_
        rintro e w5 ⟨rfl, hb5⟩
        have R5 := R3.out.up hb5
        have F5 := F3.out.up hb5
        have O5 := hO.out.up hb5
        have W5 := Lib.hid (HW.out.up hb5)
        have u5 := up_call uw.out hb5
        clear hb5
        have rc := R5.c
        have rf := R5.f
        have gc5 := O5.c
        by_cases hf : Tp.pC ms = 0
        · have E := Lib.hid (Tp.r_good HP0.out HT.out (by rw [← HMS.out]; exact hf))
          rw [hf]
          clear hf
          obtain ⟨dr, d0, d1⟩ := put_both (v := .slice pv ms.length cv) F5 R5 (by omega) 0 0
          obtain ⟨a0, a1, a2, a3, a4⟩ := F5
          go_wp2_with fail
          refine bodyPost_ret (v := .tuple #[.agg #[.slice pv ms.length cv], .bool true, .agg #[.int .i64 0, .int .i64 0]]) (by simp [results, Try.results16, go_sem, d0, d1, dr]) rfl ⟨pv, cv, by rw [E.out.1, E.out.2.1, E.out.2.2.1, E.out.2.2.2, HMS.out], ?_, HCV.out.1, by rw [E.out.2.2.2, ← HMS.out]; exact HCV.out.2, ?_⟩
          · rw [E.out.2.2.2, ← HMS.out]
            have UF : Below w.heap.size w (((w5.setCell ⟨w.heap.size + 1 + 1, 0, none⟩ (.slice pv ms.length cv)).setCell ⟨w.heap.size + 1 + 1 + 1, 0, none⟩ (.int .i64 0)).setCell ⟨w.heap.size + 1 + 1 + 1, 1, none⟩ (.int .i64 0)) :=
              ((u5.setCell (by dsimp only; omega) _).setCell (by dsimp only; omega) _).setCell (by dsimp only; omega) _
            obtain ⟨p', c', e', hp', -, -⟩ := rw_ptc (ownsRow_setCell_below (ownsRow_setCell_below (ownsRow_setCell_below W5.out (a := ⟨w.heap.size + 1 + 1, 0, none⟩) (by dsimp only; omega) (.slice pv ms.length cv)) (a := ⟨w.heap.size + 1 + 1 + 1, 0, none⟩) (by dsimp only; omega) (.int .i64 0)) (a := ⟨w.heap.size + 1 + 1 + 1, 1, none⟩) (by dsimp only; omega) (.int .i64 0)) HRW.out UF
            injection e' with e1 _ _
            rw [← e1] at hp'
            exact hp'
          · exact ((u5.setCell (by dsimp only; omega) _).setCell (by dsimp only; omega) _).setCell (by dsimp only; omega) _
        · have E := Lib.hid (Tp.r_large HP0.out HT.out (by rw [← HMS.out]; exact hf))
          have gf : (Tp.pC ms != 0) = true := by simpa using hf
          clear hf
          go_wp2_with fail
          refine (at_any _ _ _).mono ?_
          rintro e w6 ⟨rfl, hb6⟩
          have u6 := up_call u5 hb6
          have R6 := R5.up hb6
          have F6 := F5.up hb6
          obtain ⟨dr, d0, d1⟩ := put_both (v := .slice none 0 0) F6 R6 (by omega) 10 (-1)
          have rc := R6.c
          have rf := R6.f
          obtain ⟨a0, a1, a2, a3, a4⟩ := F6
          go_wp2_with fail
          refine bodyPost_ret (v := .tuple #[.agg #[.slice none 0 0], .bool false, .agg #[.int .i64 10, .int .i64 (-1)]]) (by simp [results, Try.results16, go_sem, d0, d1, dr]) rfl ⟨none, 0, by rw [E.out.1, E.out.2.1, E.out.2.2.1, E.out.2.2.2]; rfl, by rw [E.out.2.2.2]; exact ptc_none _, fun _ => rfl, by rw [E.out.2.2.2]; exact Nat.le_refl _, ?_⟩
          (repeat' (first | (with_reducible exact Below.refl _ _) | (with_reducible assumption) | (with_reducible refine below_drewN ?_ _) | (with_reducible refine Below.setCell ?_ ?_ _) | (with_reducible refine Below.alloc ?_ ?_ _) | (with_reducible refine Below.drew ?_) | go_size))
  · have E := Lib.hid (Tp.r_fault hp0)
    have hne : (Tp.prC hs ks != 0) = true := by simpa using hp0
    clear hp0
    obtain ⟨dr, d0, d1⟩ := put_both (v := .slice none 0 0) (F1.out.alloc (.cells #[.int .i64 (Tp.prC hs ks), .int .i64 (Tp.prI hs ks)] 26 (0, 0))) (R1.out.alloc (.cells #[.int .i64 (Tp.prC hs ks), .int .i64 (Tp.prI hs ks)] 26 (0, 0))) (by omega) (Tp.prC hs ks) (Tp.prI hs ks)
    have rc := cell_up R1.out.c (.cells #[.int .i64 (Tp.prC hs ks), .int .i64 (Tp.prI hs ks)] 26 (0, 0))
    have rf := frozen_up R1.out.c R1.out.f (.cells #[.int .i64 (Tp.prC hs ks), .int .i64 (Tp.prI hs ks)] 26 (0, 0))
    obtain ⟨a0, a1, a2, a3, a4⟩ := F1.out
    go_wp2_with fail
    go_region
    all_goals
      go_wp2_with fail
      refine bodyPost_ret (v := .tuple #[.agg #[.slice none 0 0], .bool false, .agg #[.int .i64 (Tp.prC hs ks), .int .i64 (Tp.prI hs ks)]]) (by simp [results, Try.results16, go_sem, d0, d1, dr]) rfl ⟨none, 0, by rw [E.out.1, E.out.2.1, E.out.2.2.1, E.out.2.2.2]; rfl, by rw [E.out.2.2.2]; exact ptc_none _, fun _ => rfl, by rw [E.out.2.2.2]; exact Nat.le_refl _, ?_⟩
      (repeat' (first | (with_reducible exact Below.refl _ _) | (with_reducible assumption) | (with_reducible refine below_drewN ?_ _) | (with_reducible refine Below.setCell ?_ ?_ _) | (with_reducible refine Below.alloc ?_ ?_ _) | (with_reducible refine Below.drew ?_) | go_size))
end Go.Proofs.Ytolpbeemeignaaa
