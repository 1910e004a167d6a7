/-
  The reference's Compose, walked.
-/
import Derived.Test.YtbgnckbgpiajjaaCrE
import Derived.Test.YtbgnckbgpiajjaaCpQ
import Derived.Test.YtbgnckbgpiajjaaTpE
import Derived.Laws.MakeOwn
import Derived.Laws.OwnMore
namespace Go.Proofs.Ytbgnckbgpiajjaa
open Go.RowKit
set_option maxRecDepth 4000

theorem make_gone (w : World) : ∃ w', (Instr.makeSlice 22 (.int .i64 400) (.int .i64 400)).run Try.prog w = .ok (.slice (some ⟨w.heap.size, 0, none⟩) 400 400) w' ∧
    OwnE strE w.heap.size w' (.slice (some ⟨w.heap.size, 0, none⟩) 400 400) (List.replicate 400 ByteArray.empty) ∧ w.grownBy w' none ∧ w'.heap.size = w.heap.size + 1 := by
  obtain ⟨i0, hi, hz0, hz1, hz2⟩ := info_parts infoS
  have hr := run_makeSlice (P := Try.prog) w 22 9 i0 (.string ByteArray.empty) Try.underlying22 hi hz0 .i64 .i64 400 400 (by decide) (by decide) (by rw [hz1]; decide) (by rw [hz2]; decide) (by decide)
  refine ⟨_, hr, ?_, World.grownBy_alloc w _ none, World.size_alloc ..⟩
  obtain ⟨w', h1, h2, -⟩ := run_makeSlice_full (P := Try.prog) w w.heap.size 22 9 i0 (.string ByteArray.empty) 1 Try.underlying22 hi hz0 hz1 .i64 .i64 400 (by decide) (by rw [hz2]; decide) (by decide) (Nat.le_refl _)
  rw [show ((400 : Nat) : Int) = 400 from rfl, hr] at h1
  injection h1 with _ h3
  subst h3
  have e : (madeCells (Value.string ByteArray.empty).cells (400 * 1)).toList = (List.replicate 400 ByteArray.empty).flatMap strE.enc := by
    rw [flat_str]
    kernel_rfl
  unfold OwnE
  rw [← e]
  exact h2
theorem ch_lt {hs : List Tp.H} (hv : Tp.Vp hs) (k : Nat) (hk : k < hs.length) : Tp.lastE (-1) (hs.take k) < hs[k].at' ∧ -1 ≤ Tp.lastE (-1) (hs.take k) := by
  have hc := Tp.ch_take (k + 1) hv.ch
  rw [List.take_succ_eq_append_getElem hk, Tp.ch_snoc] at hc
  refine ⟨hc.2.gap, ?_⟩
  rcases Nat.eq_zero_or_pos k with e | e
  · subst e; rw [List.take_zero]; decide
  · obtain ⟨j, rfl⟩ : ∃ j, k = j + 1 := ⟨k - 1, by omega⟩
    have hj : j < hs.length := by omega
    rw [List.take_succ_eq_append_getElem hj, Tp.lastE_snoc]
    obtain ⟨⟨pr, hok⟩, -⟩ := Tp.ch_at hv.ch j hj
    have := hok.lo
    unfold Tp.en
    omega
/-- the first loop: i old lines are done -/
structure L1 (gb C : Nat) (w0 : World) (hs : List Tp.H) (k i : Nat) (w : World) (v : Value) : Prop where
  rg : Rg gb C w0 w (Tp.sets (List.replicate 400 ByteArray.empty) (Tp.gd 0 (Tp.sk hs k i))) v (Tp.it 0 (Tp.sk hs k i))
  kl : k ≤ hs.length
  il : i ≤ 400
  lo : Tp.lastE (-1) (hs.take k) < i
  pend : ∀ (h : k < hs.length), (i : Int) ≤ hs[k].at'
  size : (Tp.it 0 (Tp.sk hs k i)).length ≤ i + 120 * k
  small : ∀ y ∈ Tp.it 0 (Tp.sk hs k i), y.2.size ≤ 140737488351232

theorem L1.keep {gb C : Nat} {w0 w w2 : World} {hs : List Tp.H} {k i : Nat} {v v' : Value} (h : L1 gb C w0 hs k i w v) (hv : Tp.Vp hs) (hi : i < 400) (hn : ∀ (h : k < hs.length), hs[k].at' ≠ (i : Int))
    (hr : Rg gb C w0 w2 (Tp.sets (List.replicate 400 ByteArray.empty) (Tp.gd 0 (Tp.sk hs k i))) v' (Tp.it 0 (Tp.sk hs k i) ++ [((i : Int), ByteArray.empty)])) : L1 gb C w0 hs k (i + 1) w2 v' := by
  have hlo := h.lo
  obtain ⟨e1, e2⟩ := Tp.sk_keep hv.ch k i (by omega)
  refine ⟨by rw [e1, e2]; exact hr, h.kl, by omega, by omega, fun hk => ?_, by rw [e1, List.length_append]; have := h.size; simp only [List.length_singleton]; omega, fun y hy => ?_⟩
  · have h1 := h.pend hk
    have h2 := hn hk
    omega
  · rw [e1] at hy
    rcases List.mem_append.1 hy with hy | hy
    · exact h.small y hy
    · rw [List.mem_singleton.1 hy]; show ByteArray.empty.size ≤ 140737488351232; decide
theorem L1.hunk {gb C : Nat} {w0 w w2 : World} {hs : List Tp.H} {k i : Nat} {v v' : Value} (h : L1 gb C w0 hs k i w v) (hv : Tp.Vp hs) (hk : k < hs.length) (ha : hs[k].at' = (i : Int))
    (hr : Rg gb C w0 w2 (Tp.sets (List.replicate 400 ByteArray.empty) (Tp.gd 0 (Tp.sk hs k i) ++ Tp.gd i (Tp.ds hs[k].old))) v' (Tp.it 0 (Tp.sk hs k i) ++ hs[k].new.map (fun x => (-1, x)) ++ [(((i + hs[k].old.length : Nat) : Int), ByteArray.empty)])) :
    L1 gb C w0 hs (k + 1) (i + hs[k].old.length + 1) w2 v' := by
  have hlo := h.lo
  obtain ⟨e1, e2, e3⟩ := Tp.sk_hunk hv.ch k i hk ha (by omega)
  obtain ⟨⟨pr, hok⟩, -⟩ := Tp.ch_at hv.ch k hk
  have z1 := hok.end'
  have z2 := (Lin.vC_zero hok.new).1
  have z3 : Tp.en hs[k] = hs[k].at' + hs[k].old.length := rfl
  refine ⟨by rw [e1, e2]; exact hr, hk, by omega, by rw [e3]; omega, fun hk' => ?_, ?_, fun y hy => ?_⟩
  · have := (ch_lt hv (k + 1) hk').1
    rw [e3] at this
    omega
  · rw [e1]
    have := h.size
    simp only [List.length_append, List.length_map, List.length_singleton]
    omega
  · rw [e1] at hy
    rcases List.mem_append.1 hy with hy | hy
    · rcases List.mem_append.1 hy with hy | hy
      · exact h.small y hy
      · obtain ⟨x, hx, rfl⟩ := List.mem_map.1 hy
        exact Tp.vc_small hok.new x hx
    · rw [List.mem_singleton.1 hy]; show ByteArray.empty.size ≤ 140737488351232; decide

theorem qh_next (ol : List ByteArray) (M : List (Int × ByteArray)) (A j : Nat) (hj : j < ol.length) (hA : A + j < M.length) :
    Tp.qh (ol.take (j + 1)) (M.drop A) = Tp.qh (ol.take j) (M.drop A) ++ (if 0 ≤ (M[A + j]).1 then [((M[A + j]).1.toNat, ol[j])] else []) := by
  have hl : (ol.take j).length = j := by rw [List.length_take]; omega
  have hb : (ol.take j).length < (M.drop A).length := by rw [hl, List.length_drop]; omega
  have e : (M.drop A)[(ol.take j).length] = M[A + j] := by
    rw [List.getElem_drop]
    simp only [hl]
  rw [List.take_succ_eq_append_getElem hj, Tp.qh_snoc _ _ _ hb, e]
/-- the second loop: i hunks of the second patch are done -/
structure L2 (gb C : Nat) (w0 : World) (ks : List Tp.H) (M : List (Int × ByteArray)) (g : List ByteArray) (K : List Tp.H) (i a : Nat) (w : World) (u : Value) : Prop where
  ex : ∃ L Q, Rg gb C w0 w (Tp.sets g Q) u L ∧ Tp.P2 ks M i a L Q ∧ L.length ≤ a + 120 * i ∧ ∀ y ∈ L, y.2.size ≤ 140737488351232
  calm : ∀ j (_ : j < i) (h2 : j < ks.length), Tp.cfh K ks[j] = false
  al : a ≤ 120
theorem end_small {ks : List Tp.H} (hv : Tp.Vp ks) (i : Nat) (hi : i < ks.length) : 0 ≤ ks[i].at' ∧ ks[i].at' ≤ 120 ∧ Tp.en ks[i] ≤ 120 ∧ ks[i].old.length ≤ 120 ∧ ks[i].new.length ≤ 120 := by
  obtain ⟨⟨pr, hok⟩, -⟩ := Tp.ch_at hv.ch i hi
  exact ⟨hok.lo, hok.hi, hok.end', (Lin.vC_zero hok.old).1, (Lin.vC_zero hok.new).1⟩

set_option maxRecDepth 100000 in
set_option maxHeartbeats 16000000 in
theorem refCompose_any (p q : Option Addr) (hs ks : List Tp.H) (n cap m cap' : Nat) (w : World) (hn : n = hs.length) (hm : m = ks.length) (hp : Ptc w p hs) (hq : Ptc w q ks) (hl : hs.length ≤ 2513169434845) (hl' : ks.length ≤ 2513169434845) :
    Calls Try.prog 29 #[.agg #[.slice p n cap], .agg #[.slice q m cap']] w (CoPost hs ks w) := by
  subst hn hm
  have HP := Lib.hid hp
  have HQ := Lib.hid hq
  clear hp hq
  have up0 := up_alloc (up_alloc (up_alloc (up_alloc (Below.refl w.heap.size w) (.cells #[.slice p hs.length cap] 41 (0, 0))) (.cells #[.slice q ks.length cap'] 41 (0, 0))) (.cells #[.slice none 0 0] 41 (0, 0))) (.cells #[.int .i64 0, .int .i64 0] 25 (0, 0))
  have O0 := (((One.new w (.slice p hs.length cap) 41 w.heap.size rfl).alloc (.cells #[.slice q ks.length cap'] 41 (0, 0))).alloc (.cells #[.slice none 0 0] 41 (0, 0))).alloc (.cells #[.int .i64 0, .int .i64 0] 25 (0, 0))
  have Q0 := ((One.new (w.alloc (.cells #[.slice p hs.length cap] 41 (0, 0))) (.slice q ks.length cap') 41 (w.heap.size + 1) (by simp)).alloc (.cells #[.slice none 0 0] 41 (0, 0))).alloc (.cells #[.int .i64 0, .int .i64 0] 25 (0, 0))
  have R0 := (One.new ((w.alloc (.cells #[.slice p hs.length cap] 41 (0, 0))).alloc (.cells #[.slice q ks.length cap'] 41 (0, 0))) (.slice none 0 0) 41 (w.heap.size + 1 + 1) (by simp)).alloc (.cells #[.int .i64 0, .int .i64 0] 25 (0, 0))
  have F0 : Flt ((((w.alloc (.cells #[.slice p hs.length cap] 41 (0, 0))).alloc (.cells #[.slice q ks.length cap'] 41 (0, 0))).alloc (.cells #[.slice none 0 0] 41 (0, 0))).alloc (.cells #[.int .i64 0, .int .i64 0] 25 (0, 0))) (w.heap.size + 1 + 1 + 1) 0 0 := by
    have := Flt.new (((w.alloc (.cells #[.slice p hs.length cap] 41 (0, 0))).alloc (.cells #[.slice q ks.length cap'] 41 (0, 0))).alloc (.cells #[.slice none 0 0] 41 (0, 0))) 0 0 25
    rw [World.size_alloc, World.size_alloc, World.size_alloc] at this
    exact this
  have hz0 : ((((w.alloc (.cells #[.slice p hs.length cap] 41 (0, 0))).alloc (.cells #[.slice q ks.length cap'] 41 (0, 0))).alloc (.cells #[.slice none 0 0] 41 (0, 0))).alloc (.cells #[.int .i64 0, .int .i64 0] 25 (0, 0))).heap.size = w.heap.size + 4 := by simp
  have oc := O0.c
  have qc := Q0.c
  have AL := Lib.hid (And.intro O0 (And.intro Q0 (And.intro R0 F0)))
  have HZ0 := Lib.hid hz0
  clear O0 Q0 R0 F0 hz0
  go_enter Try.func29, Try.ntmps29
  go_wp2_with fail
  refine (refPair_any p q hs ks _ cap _ cap' _ rfl rfl (HP.out.mono up0) (HQ.out.mono up0) hl hl').mono ?_
  rintro e w1 ⟨rfl, hb1⟩
  have u1 := up_call up0 hb1
  have O1 := AL.out.1.up hb1
  have Q1 := AL.out.2.1.up hb1
  have R1 := AL.out.2.2.1.up hb1
  have F1 := AL.out.2.2.2.up hb1
  have hzw := u1.size
  have hf1 := F1.lt
  have hz1 : w.heap.size + 4 ≤ w1.heap.size := by have := hb1.size; have := HZ0.out; omega
  clear up0 hb1 oc qc AL
  by_cases h : Tp.prC hs ks = 0
  · have VV := Lib.hid (Tp.prC_zero.1 h)
    have E := Lib.hid h
    rw [h]
    clear h
    have a2 := up_alloc (Below.refl w1.heap.size w1) (.cells #[.int .i64 0, .int .i64 (Tp.prI hs ks)] 25 (0, 0))
    obtain ⟨wg, hmk, gOwn, gGr, gSz⟩ := make_gone (w1.alloc (.cells #[.int .i64 0, .int .i64 (Tp.prI hs ks)] 25 (0, 0)))
    have hz2 : (w1.alloc (.cells #[.int .i64 0, .int .i64 (Tp.prI hs ks)] 25 (0, 0))).heap.size = w1.heap.size + 1 := by simp
    rw [hz2] at gOwn gSz hmk
    have gBel : Below (w1.heap.size + 1) (w1.alloc (.cells #[.int .i64 0, .int .i64 (Tp.prI hs ks)] 25 (0, 0))) wg := (Below.refl _ _).grown gGr (by omega) (fun b hb => by cases hb)
    have ag := a2.trans (gBel.mono (by omega))
    have O2 := Lib.hid (O1.up ag)
    have Q2 := Lib.hid (Q1.up ag)
    have R2 := Lib.hid (R1.up ag)
    have F2 := Lib.hid (F1.up ag)
    have u2 := Lib.hid (up_call u1 ag)
    have I0 : Hid (L1 (w1.heap.size + 1) (w1.heap.size + 1 + 1) wg hs 0 0 wg (.slice none 0 0)) := Lib.hid ⟨⟨Below.refl _ _, fun _ _ _ => rfl, by omega, by omega, by rw [Tp.sk_zero]; exact gOwn, by rw [Tp.sk_zero]; exact ownE_nil _ _ _⟩, Nat.zero_le _, by decide, by rw [List.take_zero]; decide, fun h => by
      obtain ⟨⟨pr, hok⟩, -⟩ := Tp.ch_at VV.out.1.ch 0 h
      exact hok.lo, by rw [Tp.sk_zero]; exact Nat.zero_le _, by rw [Tp.sk_zero]; intro y hy; cases hy⟩
    clear O1 Q1 R1 F1 a2 ag gBel gGr gOwn
    go_wp2_with fail
    go_loopw [8, 9, 10] (fun v t9 t10 wr => ∃ (k i : Nat), t9 = .int .i64 k ∧ t10 = .int .i64 i ∧ Hid (L1 (w1.heap.size + 1) (w1.heap.size + 1 + 1) wg hs k i wr v)) (fun _ _ t10 _ => 400 - (intOf t10).toNat)
    case atStart => exact ⟨0, 0, rfl, rfl, I0⟩
    case round =>
      obtain ⟨k, i, rfl, rfl, hL⟩ := hrel
      clear I0
      obtain ⟨pv, cv, rfl, hrow, hcv, hlv, hbv⟩ := hL.out.rg.item
      have VB := Lib.hid hbv
      clear hrow hcv hlv hbv
      have hkl := hL.out.kl
      have hil := hL.out.il
      have hsz := hL.out.size
      have hqv := VV.out.1.len
      have hle := hL.out.rg.le
      have b0 : (0 : Int) ≤ (i : Int) := by omega
      have b1 : (0 : Int) ≤ (k : Int) := by omega
      by_cases hi : i < 400
      · have gi : decide ((i : Int) < 400) = true := by simpa using (by omega : (i : Int) < 400)
        have gi2 : decide (i < 400) = true := by simpa using hi
        have pc : wr.cell? ⟨w.heap.size, 0, none⟩ = some (.slice p hs.length cap) := (hL.out.rg.bel.cell (p := ⟨w.heap.size, 0, none⟩) (by dsimp only; omega)).trans O2.out.c
        by_cases hk : k < hs.length
        · have gk : decide (k < hs.length) = true := by simpa using hk
          have b2 : (k : Int) < (hs.length : Int) := by omega
          have uw : Below w.heap.size w wr := u2.out.trans (hL.out.rg.bel.mono (by omega))
          obtain ⟨b, off, rfl, hbb, ⟨o1, o2, o3⟩, ⟨n1, n2, n3⟩, c0, c1, c2, ro, rn⟩ := HP.out.cell hk
          replace c0 := (uw.cell (p := ⟨b, off + k * 3, none⟩) hbb).trans c0
          replace c1 := (uw.cell (p := ⟨b, off + k * 3 + 1, none⟩) hbb).trans c1
          replace c2 := (uw.cell (p := ⟨b, off + k * 3 + 2, none⟩) hbb).trans c2
          by_cases ha : hs[k].at' = (i : Int)
          · have ga : (hs[k].at' == (i : Int)) = true := by simpa using ha
            obtain ⟨⟨pr, hok⟩, -⟩ := Tp.ch_at VV.out.1.ch k hk
            have z1 := hok.end'
            have z2 := (Lin.vC_zero hok.old).1
            have z3 := (Lin.vC_zero hok.new).1
            rw [show Tp.en hs[k] = hs[k].at' + hs[k].old.length from rfl, ha] at z1
            have FIN : Hid (∀ (w2 : World) (v' : Value), Rg (w1.heap.size + 1) (w1.heap.size + 1 + 1) wg w2 (Tp.sets (List.replicate 400 ByteArray.empty) (Tp.gd 0 (Tp.sk hs k i) ++ Tp.gd i (Tp.ds hs[k].old))) v' (Tp.it 0 (Tp.sk hs k i) ++ hs[k].new.map (fun x => (-1, x)) ++ [(((i + hs[k].old.length : Nat) : Int), ByteArray.empty)]) →
                L1 (w1.heap.size + 1) (w1.heap.size + 1 + 1) wg hs (k + 1) (i + hs[k].old.length + 1) w2 v') := Lib.hid (fun w2 v' hr => hL.out.hunk VV.out.1 hk ha hr)
            have l1 := ro.len
            have l2 := rn.len
            dsimp only at l1 l2
            subst l1 l2
            simp only [sv] at c1 c2
            have RO := Lib.hid ro
            have RN := Lib.hid rn
            obtain ⟨⟨z, ol, nl⟩, hx⟩ : ∃ x, x = hs[k] := ⟨_, rfl⟩
            rw [← hx] at c0 c1 c2 RO RN z1 z2 z3 FIN ga ha
            dsimp only at c0 c1 c2 RO RN z1 z2 z3 FIN ga ha
            subst ha
            have b3 := up_alloc (Below.refl wr.heap.size wr) (.cells #[.int .i64 (i : Int), .slice o1 ol.length o3, .slice n1 nl.length n3] 81 (0, 0))
            have RU := Lib.hid (hL.out.rg.up b3)
            have UX := Lib.hid (Hu.new wr (i : Int) (.slice o1 ol.length o3) (.slice n1 nl.length n3) 81)
            have NB : Hid (∀ b, (Value.slice pv (Tp.it 0 (Tp.sk hs k i)).length cv).ownBlock = some b → b ≠ wr.heap.size) := Lib.hid (fun b hb e => by have := (own_block hL.out.rg.row b hb).2; omega)
            have hbsz : (wr.alloc (.cells #[.int .i64 (i : Int), .slice o1 ol.length o3, .slice n1 nl.length n3] 81 (0, 0))).heap.size = wr.heap.size + 1 := by simp
            have LL := Lib.hid hL.out.lo
            clear hx hok pr b3 uw ro rn hL
            obtain ⟨gg0, hgg0⟩ : ∃ g, g = Tp.sets (List.replicate 400 ByteArray.empty) (Tp.gd 0 (Tp.sk hs k i)) := ⟨_, rfl⟩
            obtain ⟨m0, hm0⟩ : ∃ m0, m0 = Tp.it 0 (Tp.sk hs k i) := ⟨_, rfl⟩
            have HG0 := Lib.hid hgg0
            rw [← hgg0] at RU
            rw [← hm0] at RU NB FIN hsz ⊢
            clear hgg0 hm0
            obtain ⟨wo, rfl⟩ : ∃ wo, wo = wr := ⟨_, rfl⟩
            go_wp2_with fail
            go_loopw [8, 12] (fun v t12 wq => ∃ (j : Nat), j ≤ nl.length ∧ t12 = .int .i64 j ∧ Hid (Rg (w1.heap.size + 1) (w1.heap.size + 1 + 1) wg wq gg0 v (m0 ++ (nl.take j).map (fun x => ((-1 : Int), x)))) ∧ Hid (Hu wq wo.heap.size (i : Int) (.slice o1 ol.length o3) (.slice n1 nl.length n3)) ∧ Hid (∀ b, v.ownBlock = some b → b ≠ wo.heap.size)) (fun _ t12 _ => nl.length - (intOf t12).toNat)
            case atStart => exact ⟨0, Nat.zero_le _, rfl, Lib.hid (by rw [List.take_zero, List.map_nil, List.append_nil]; exact RU.out), UX, NB⟩
            case round =>
              obtain ⟨j, hj, rfl, hR, hU, hN⟩ := hrel
              clear RU UX NB
              obtain ⟨pv', cv', rfl, -, -, -, -⟩ := hR.out.item
              have hlen : (m0 ++ (nl.take j).map (fun x => ((-1 : Int), x))).length = m0.length + j := by rw [List.length_append, List.length_map, List.length_take]; omega
              rw [hlen] at hR hN ⊢
              have c0' : (0 : Int) ≤ (j : Int) := by omega
              obtain ⟨q0, q1, q2, q3⟩ := hU.out
              by_cases hjl : j < nl.length
              · have g2 : decide (j < nl.length) = true := by simpa using hjl
                have b4 : (j : Int) < (nl.length : Int) := by omega
                have bq : Below w.heap.size w wr := u2.out.trans (hR.out.bel.mono (by omega))
                obtain ⟨b', off', rfl, hbb', hc⟩ := RN.out.sts.at' (by intro e; rw [e] at hjl; simp at hjl)
                have cl := (bq.cell (p := ⟨b', off' + j, none⟩) hbb').trans (hc j hjl)
                rw [show nl.getD j ByteArray.empty = nl[j] by simp [List.getD_eq_getElem?_getD, hjl]] at cl
                have b3 := up_alloc (Below.refl wr.heap.size wr) (.cells #[.int .i64 (-1), .string nl[j]] 100 (0, 0))
                have RU := hR.out.up b3
                have UU := hU.out.up b3
                clear bq hc
                go_wp2_with (at_builtin; refine Stop.out ?_)
                refine ⟨?_⟩
                refine wp_appE_at itE rfl (.tmp 67) (.tmp 74) rfl (w1.heap.size + 1 + 1) (.slice pv' (m0.length + j) cv') (m0 ++ (nl.take j).map (fun x => ((-1 : Int), x))) ((-1 : Int), nl[j]) _ 1 rfl RU.row rfl (it_one _ _ rfl (-1 : Int) nl[j] _) (by simp [itE]; omega) (by rw [hlen]; omega) (by simp; omega) ?_
                intro v' w2 own gr hat
                obtain ⟨gg, cc, rfl⟩ := own_succ (m := m0.length + j) own (by rw [hlen])
                have R2' := RU.push gr own
                rw [List.append_assoc, ← List.map_singleton (f := fun x => ((-1 : Int), x)), ← List.map_append, ← List.take_succ_eq_append_getElem hjl] at R2'
                have N2 : Hid (∀ b, (Value.slice (some ⟨gg, 0, none⟩) (m0.length + j + 1) cc).ownBlock = some b → b ≠ wo.heap.size) := Lib.hid (fun b hb => by
                  rcases hat with e | e
                  · exact hN.out b (by rw [← e]; exact hb)
                  · rw [e] at hb
                    have e2 := Option.some.inj hb
                    have := b3.size
                    omega)
                have U2' := Lib.hid (UU.grown gr (fun e => hN.out _ e rfl))
                have R2'' := Lib.hid R2'
                clear own gr hat RU UU R2' b3
                go_wp2_with fail
                go_roundw
                case rel => exact ⟨j + 1, hjl, by go_num, R2'', U2', N2⟩
                case measure => first | (simp [intOf]; done) | (simp [intOf]; omega)
              · have g2 : decide (j < nl.length) = false := by simpa using hjl
                obtain rfl : j = nl.length := by omega
                rw [List.take_length] at hR
                obtain ⟨m1, hm1⟩ : ∃ m1, m1 = m0 ++ nl.map (fun x => ((-1 : Int), x)) := ⟨_, rfl⟩
                rw [← hm1] at hR FIN
                have hlen1 : m1.length = m0.length + nl.length := by rw [hm1, List.length_append, List.length_map]
                clear hlen hm1
                obtain ⟨wp, rfl⟩ : ∃ wp, wp = wr := ⟨_, rfl⟩
                have R0' : Hid (Rg (w1.heap.size + 1) (w1.heap.size + 1 + 1) wg wp (Tp.sets (List.replicate 400 ByteArray.empty) (Tp.gd 0 (Tp.sk hs k i) ++ Tp.gd i (Tp.ds (ol.take 0)))) (.slice pv' (m0.length + nl.length) cv') m1) := Lib.hid (by
                  have e : Tp.gd i (Tp.ds (ol.take 0)) = [] := rfl
                  rw [e, List.append_nil, ← HG0.out]
                  exact hR.out)
                clear hR
                go_wp2_with fail
                go_loopw [13] (fun t13 wq => ∃ (j : Nat), j ≤ ol.length ∧ t13 = .int .i64 j ∧ Hid (Rg (w1.heap.size + 1) (w1.heap.size + 1 + 1) wg wq (Tp.sets (List.replicate 400 ByteArray.empty) (Tp.gd 0 (Tp.sk hs k i) ++ Tp.gd i (Tp.ds (ol.take j)))) (.slice pv' (m0.length + nl.length) cv') m1) ∧ Hid (Hu wq wo.heap.size (i : Int) (.slice o1 ol.length o3) (.slice n1 nl.length n3))) (fun t13 _ => ol.length - (intOf t13).toNat)
                case atStart => exact ⟨0, Nat.zero_le _, rfl, R0', hU⟩
                case round =>
                  obtain ⟨j, hj, rfl, hR, hU2⟩ := hrel
                  clear R0'
                  obtain ⟨q0, q1, q2, q3⟩ := hU2.out
                  have c0' : (0 : Int) ≤ (j : Int) := by omega
                  by_cases hjl : j < ol.length
                  · have g2 : decide (j < ol.length) = true := by simpa using hjl
                    have b4 : (j : Int) < (ol.length : Int) := by omega
                    have bq : Below w.heap.size w wr := u2.out.trans (hR.out.bel.mono (by omega))
                    obtain ⟨b', off', rfl, hbb', hc⟩ := RO.out.sts.at' (by intro e; rw [e] at hjl; simp at hjl)
                    have cl := (bq.cell (p := ⟨b', off' + j, none⟩) hbb').trans (hc j hjl)
                    rw [show ol.getD j ByteArray.empty = ol[j] by simp [List.getD_eq_getElem?_getD, hjl]] at cl
                    have hij : i + j < 400 := by omega
                    obtain ⟨gc, gf⟩ := hR.out.cell hij
                    have gf' := gf (i + j)
                    have wz : IntKind.i64.wrap ((i : Int) + (j : Int)) = (i : Int) + (j : Int) := IntWalk.i64_in _ (by omega)
                    have b5 : (i : Int) + (j : Int) < 400 := by omega
                    have b6 : (0 : Int) ≤ (i : Int) + (j : Int) := by omega
                    have R2' := hR.out.set hij ol[j]
                    rw [← Tp.sets_snoc, List.append_assoc] at R2'
                    have e2 : Tp.gd i (Tp.ds (ol.take j)) ++ [(i + j, ol[j])] = Tp.gd i (Tp.ds (ol.take (j + 1))) := by
                      rw [List.take_succ_eq_append_getElem hjl, Tp.gd_snoc, List.length_take, Nat.min_eq_left (by omega)]
                    rw [e2] at R2'
                    have R2'' := Lib.hid R2'
                    have U2' := Lib.hid (hU2.out.same (w' := wr.setCell ⟨w1.heap.size + 1, i + j, none⟩ (.string ol[j])) (Below.heap_setCell _ _ _ _ (by dsimp only; omega)) (by rw [World.size_setCell]; exact Nat.le_refl _))
                    clear bq hc gf e2 R2'
                    go_wp2_with fail
                    go_roundw
                    case rel => exact ⟨j + 1, hjl, by go_num, R2'', U2'⟩
                    case measure => first | (simp [intOf]; done) | (simp [intOf]; omega)
                  · have g2 : decide (j < ol.length) = false := by simpa using hjl
                    obtain rfl : j = ol.length := by omega
                    rw [List.take_length] at hR
                    have wz : IntKind.i64.wrap ((i : Int) + (ol.length : Int)) = (i : Int) + (ol.length : Int) := IntWalk.i64_in _ (by omega)
                    have b3 := up_alloc (Below.refl wr.heap.size wr) (.cells #[.int .i64 ((i : Int) + (ol.length : Int)), .string ⟨#[]⟩] 100 (0, 0))
                    have RU := hR.out.up b3
                    go_wp2_with (at_builtin; refine Stop.out ?_)
                    refine ⟨?_⟩
                    refine wp_appE_at itE rfl (.tmp 98) (.tmp 101) rfl (w1.heap.size + 1 + 1) (.slice pv' (m0.length + nl.length) cv') m1 ((i : Int) + (ol.length : Int), ⟨#[]⟩) _ 1 rfl RU.row rfl (it_one _ _ rfl ((i : Int) + (ol.length : Int)) ⟨#[]⟩ _) (by simp [itE]; omega) (by omega) (by simp; omega) ?_
                    intro v' w2 own gr hat
                    obtain ⟨gg, cc, rfl⟩ := own_succ (m := m0.length + nl.length) own hlen1.symm
                    have NX := Lib.hid (FIN.out w2 _ (by rw [Int.natCast_add]; exact RU.push gr own))
                    clear own gr hat RU b3
                    go_wp2_with fail
                    go_roundw
                    case rel => exact ⟨k + 1, i + ol.length + 1, by go_num, by go_num, NX⟩
                    case measure => first | (simp [intOf]; done) | (simp [intOf]; omega)
          · have ga : (hs[k].at' == (i : Int)) = false := by simpa using ha
            have b3 := up_alloc (Below.refl wr.heap.size wr) (.cells #[.int .i64 (i : Int), .string ⟨#[]⟩] 100 (0, 0))
            have RU := hL.out.rg.up b3
            go_wp2_with (at_builtin; refine Stop.out ?_)
            refine ⟨?_⟩
            refine wp_appE_at itE rfl (.tmp 98) (.tmp 101) rfl (w1.heap.size + 1 + 1) (.slice pv (Tp.it 0 (Tp.sk hs k i)).length cv) (Tp.it 0 (Tp.sk hs k i)) ((i : Int), ⟨#[]⟩) _ 1 rfl RU.row rfl (it_one _ _ rfl (i : Int) ⟨#[]⟩ _) (by simp [itE]; omega) (by omega) (by simp; omega) ?_
            intro v' w2 own gr hat
            obtain ⟨gg, cc, rfl⟩ := own_succ (m := (Tp.it 0 (Tp.sk hs k i)).length) own rfl
            have NX := Lib.hid (hL.out.keep VV.out.1 hi (fun _ => ha) (RU.push gr own))
            clear own gr hat RU b3 c0 c1 c2 ro rn
            go_wp2_with fail
            go_roundw
            case rel => exact ⟨k, i + 1, rfl, by go_num, NX⟩
            case measure => first | (simp [intOf]; done) | (simp [intOf]; omega)
        · have gk : decide (k < hs.length) = false := by simpa using hk
          have b3 := up_alloc (Below.refl wr.heap.size wr) (.cells #[.int .i64 (i : Int), .string ⟨#[]⟩] 100 (0, 0))
          have RU := hL.out.rg.up b3
          go_wp2_with (at_builtin; refine Stop.out ?_)
          refine ⟨?_⟩
          refine wp_appE_at itE rfl (.tmp 98) (.tmp 101) rfl (w1.heap.size + 1 + 1) (.slice pv (Tp.it 0 (Tp.sk hs k i)).length cv) (Tp.it 0 (Tp.sk hs k i)) ((i : Int), ⟨#[]⟩) _ 1 rfl RU.row rfl (it_one _ _ rfl (i : Int) ⟨#[]⟩ _) (by simp [itE]; omega) (by omega) (by simp; omega) ?_
          intro v' w2 own gr hat
          obtain ⟨gg, cc, rfl⟩ := own_succ (m := (Tp.it 0 (Tp.sk hs k i)).length) own rfl
          have NX := Lib.hid (hL.out.keep VV.out.1 hi (fun h => (hk h).elim) (RU.push gr own))
          clear own gr hat RU b3
          go_wp2_with fail
          go_roundw
          case rel => exact ⟨k, i + 1, rfl, by go_num, NX⟩
          case measure => first | (simp [intOf]; done) | (simp [intOf]; omega)
      · have gi : decide ((i : Int) < 400) = false := by simpa using (by omega : ¬ (i : Int) < 400)
        have gi2 : decide (i < 400) = false := by simpa using hi
        obtain rfl : i = 400 := by omega
        obtain rfl : k = hs.length := by
          rcases Nat.lt_or_ge k hs.length with h1 | h1
          · have h2 := hL.out.pend h1
            have h3 := (end_small VV.out.1 k h1).2.1
            omega
          · omega
        have RC := Lib.hid (Tp.ref_cm' (p := hs) (q := ks) VV.out.1 VV.out.2 (List.replicate 400 ByteArray.empty) (by simp) 400 rfl)
        have SM := Lib.hid hL.out.small
        obtain ⟨pv2, cv2, e2, hrow, hcv, hlv, -⟩ := hL.out.rg.item
        injection e2 with e3 _ e4
        subst e3 e4
        have MR0 := Lib.hid hrow
        have MC := Lib.hid (And.intro hcv hlv)
        have ML := Lib.hid (fun a ha => (own_block hL.out.rg.row a ha))
        have R0' := hL.out.rg
        obtain ⟨M, hM⟩ : ∃ M, M = Tp.it 0 (Tp.sk hs hs.length 400) := ⟨_, rfl⟩
        obtain ⟨g1, hg1⟩ : ∃ g1, g1 = Tp.sets (List.replicate 400 ByteArray.empty) (Tp.gd 0 (Tp.sk hs hs.length 400)) := ⟨_, rfl⟩
        have G1S : Hid (∀ x ∈ g1, x.size ≤ 140737488351232) := Lib.hid (by rw [hg1]; exact Tp.sets_small _ _ (fun x hx => by rw [List.eq_of_mem_replicate hx]; decide) (Tp.gd_small VV.out.1 _ _ _))
        rw [← hg1] at RC R0'
        simp only [← hM] at RC R0' SM MR0 MC ML hsz ⊢
        obtain ⟨K, hK⟩ : ∃ K, K = Tp.iv 0 hs := ⟨_, rfl⟩
        have KH := Lib.hid hK
        have IV : Hid (∀ j (hj : j < M.length), (∀ x, Tp.vd K j = some x → M[j] = (-1, x)) ∧ (Tp.vd K j = none → 0 ≤ (M[j]).1)) := Lib.hid (by subst hM hK; exact fun j hj => Tp.item_sk (p := hs) VV.out.1.ch 400 j hj)
        have BL := Lib.hid R0'.bel
        have S2 : Hid (L2 (w1.heap.size + 1) wr.heap.size wr ks M g1 K 0 0 wr (.slice none 0 0)) := Lib.hid ⟨⟨[], [], ⟨Below.refl _ _, fun _ _ _ => rfl, by omega, Nat.le_refl _, R0'.gone, ownE_nil _ _ _⟩, Tp.P2.start ks M, Nat.zero_le _, (fun y hy => by cases hy)⟩, (fun j hj => by omega), by omega⟩
        obtain ⟨wo, rfl⟩ : ∃ wo, wo = wr := ⟨_, rfl⟩
        have hk2 := VV.out.2.len
        have hm1 := RC.out.1
        clear hM hg1 hK hrow hcv hlv R0' hL
        go_wp2_with fail
        go_loopw [14, 15, 16] (fun u t15 t16 wq => ∃ (i a : Nat), i ≤ ks.length ∧ t15 = .int .i64 a ∧ t16 = .int .i64 i ∧ Hid (L2 (w1.heap.size + 1) wo.heap.size wo ks M g1 K i a wq u)) (fun _ _ t16 _ => ks.length - (intOf t16).toNat)
        case atStart => exact ⟨0, 0, Nat.zero_le _, rfl, rfl, S2⟩
        case round =>
          obtain ⟨i, a, hik, rfl, rfl, hL⟩ := hrel
          clear S2
          obtain ⟨⟨L, Q, hR, hP, hLl, hLs⟩, hC, hal⟩ := hL.out
          obtain ⟨pu, cu, rfl, -, -, -, -⟩ := hR.item
          have RH := Lib.hid hR
          have PH := Lib.hid hP
          have CH := Lib.hid hC
          have LS := Lib.hid hLs
          have c0' : (0 : Int) ≤ (i : Int) := by omega
          have c1' : (0 : Int) ≤ (a : Int) := by omega
          have bw := hR.bel
          have qc2 : wr.cell? ⟨w.heap.size + 1, 0, none⟩ = some (.slice q ks.length cap') := (bw.cell (p := ⟨w.heap.size + 1, 0, none⟩) (by dsimp only; omega)).trans ((BL.out.cell (p := ⟨w.heap.size + 1, 0, none⟩) (by dsimp only; omega)).trans Q2.out.c)
          have MR := Lib.hid (MR0.out.same (hR.le) (fun ad had => hR.far ad.block (ML.out ad.block (by rw [had]; rfl)).2 (by have := (ML.out ad.block (by rw [had]; rfl)).1; omega)))
          have hle := hR.le
          have uw := u2.out.trans ((BL.out.trans bw).mono (show w.heap.size ≤ w1.heap.size + 1 by omega))
          clear hR hP hC hLs hL
          by_cases hlt : i < ks.length
          · have g2 : decide (i < ks.length) = true := by simpa using hlt
            have b2 : (i : Int) < (ks.length : Int) := by omega
            obtain ⟨e1, e2, e3, e4, e5⟩ := end_small VV.out.2 i hlt
            obtain ⟨b, off, rfl, hbb, ⟨o1, o2, o3⟩, ⟨n1, n2, n3⟩, c0, c1, c2, ro, rn⟩ := HQ.out.cell hlt
            replace c0 := (uw.cell (p := ⟨b, off + i * 3, none⟩) hbb).trans c0
            replace c1 := (uw.cell (p := ⟨b, off + i * 3 + 1, none⟩) hbb).trans c1
            replace c2 := (uw.cell (p := ⟨b, off + i * 3 + 2, none⟩) hbb).trans c2
            obtain ⟨nx1, nx2, nx3⟩ := PH.out.next VV.out.2.ch hlt (by omega)
            have l1 := ro.len
            have l2 := rn.len
            dsimp only at l1 l2
            subst l1 l2
            simp only [sv] at c1 c2
            have RO := Lib.hid ro
            have RN := Lib.hid rn
            obtain ⟨⟨z, ol, nl⟩, hx⟩ : ∃ x, x = ks[i] := ⟨_, rfl⟩
            have HX := Lib.hid hx
            rw [show Tp.en ks[i] = ks[i].at' + ks[i].old.length from rfl] at e3 nx3
            rw [← hx] at c0 c1 c2 RO RN e1 e2 e3 e4 e5 nx1 nx2 nx3
            dsimp only at c0 c1 c2 RO RN e1 e2 e3 e4 e5 nx1 nx2 nx3
            clear hx
            obtain ⟨A, rfl⟩ : ∃ A : Nat, z = (A : Int) := ⟨z.toNat, by omega⟩
            rw [Int.toNat_natCast] at nx1 nx2 nx3
            rw [show ((A : Int) + (ol.length : Int)).toNat = A + ol.length by omega] at nx3
            have NX := Lib.hid nx3
            obtain ⟨L1', hL1⟩ : ∃ L1', L1' = L ++ (M.drop a).take (A - a) := ⟨_, rfl⟩
            have hlm : ((M.drop a).take (A - a)).length = A - a := by rw [List.length_take, List.length_drop]; omega
            have hl1 : L1'.length = L.length + (A - a) := by rw [hL1, List.length_append, hlm]
            have LS1 : Hid (∀ y ∈ L1', y.2.size ≤ 140737488351232) := Lib.hid (fun y hy => by
              rw [hL1] at hy
              rcases List.mem_append.1 hy with hy | hy
              · exact LS.out y hy
              · exact SM.out y (List.mem_of_mem_drop (List.mem_of_mem_take hy)))
            have b3 := up_alloc (Below.refl wr.heap.size wr) (.cells #[.int .i64 (A : Int), .slice o1 ol.length o3, .slice n1 nl.length n3] 81 (0, 0))
            have RU := Lib.hid (RH.out.up b3)
            have UX := Lib.hid (Hu.new wr (A : Int) (.slice o1 ol.length o3) (.slice n1 nl.length n3) 81)
            have MU := Lib.hid (MR.out.mono b3)
            have hbsz : (wr.alloc (.cells #[.int .i64 (A : Int), .slice o1 ol.length o3, .slice n1 nl.length n3] 81 (0, 0))).heap.size = wr.heap.size + 1 := by simp
            have NB : ∀ b, (Value.slice pu L.length cu).ownBlock = some b → b ≠ wr.heap.size := fun b hb e => by have := (own_block RH.out.row b hb).2; omega
            have s1 := fun w => run_midI pv M.length cv a A nx1 (by have := MC.out.2; omega) w
            have x0 := UX.out.c0
            have hcv := MC.out.2
            clear b3 uw ro rn nx3 bw
            obtain ⟨wp, rfl⟩ : ∃ wp, wp = wr := ⟨_, rfl⟩
            go_wp2_with (at_builtin; refine Stop.out ?_)
            refine ⟨?_⟩
            refine wp_appR itE rfl (.tmp 115) (.tmp 120) rfl wo.heap.size (.slice pu L.length cu) L ((M.drop a).take (A - a)) (sAtN pv a cv 2) (cv - a) rfl RU.out.row (by rw [hlm]; rfl) (MU.out.part a (A - a) cv hcv) (sAtN_cap MC.out.1) (by rw [hlm]; simp [itE]; omega) (by rw [hlm]; omega) (by rw [hbsz]; omega) ?_
            intro v' w2 own gr hat
            rw [← hL1] at own
            obtain ⟨p1, cp1, rfl⟩ : ∃ p cap, v' = .slice p L1'.length cap := by
              obtain ⟨p, c, e, -⟩ := row_of_own own
              exact ⟨p, c, e⟩
            have R1' := RU.out.push gr own
            have UX1 := Lib.hid (UX.out.grown gr (fun e => NB _ e rfl))
            have NB1 : Hid (∀ b, (Value.slice p1 L1'.length cp1).ownBlock = some b → b ≠ wp.heap.size) := Lib.hid (fun b hb => by
              rcases hat with e | e
              · exact NB b (by rw [← e]; exact hb)
              · rw [e] at hb
                have e2 := Option.some.inj hb
                omega)
            have R2' : Hid (Rg (w1.heap.size + 1) wo.heap.size wo w2 (Tp.sets g1 (Q ++ Tp.qh (ol.take 0) (M.drop A))) (.slice p1 L1'.length cp1) L1') := Lib.hid (by
              have e : Tp.qh (ol.take 0) (M.drop A) = [] := by cases M.drop A <;> rfl
              rw [e, List.append_nil]
              exact R1')
            have hzp : wp.heap.size < w2.heap.size := UX1.out.lt
            clear own gr hat R1' RU UX MU s1 x0 NB hlm c0 c1 c2
            rw [hl1]
            rw [hl1] at R2' NB1
            have HL1 := Lib.hid hL1
            clear hL1
            go_wp2_with fail
            go_loopw [18] (fun t18 wq => ∃ (j : Nat), j ≤ ol.length ∧ t18 = .int .i64 j ∧ Hid (Rg (w1.heap.size + 1) wo.heap.size wo wq (Tp.sets g1 (Q ++ Tp.qh (ol.take j) (M.drop A))) (.slice p1 (L.length + (A - a)) cp1) L1') ∧ Hid (Hu wq wp.heap.size (A : Int) (.slice o1 ol.length o3) (.slice n1 nl.length n3)) ∧ Hid (∀ j' (_ : j' < j) (h2 : j' < ol.length) y, Tp.vd K (A + j') = some y → y = ol[j'])) (fun t18 _ => ol.length - (intOf t18).toNat)
            case atStart => exact ⟨0, Nat.zero_le _, rfl, R2', UX1, Lib.hid (fun j hj => by omega)⟩
            case round =>
              obtain ⟨j, hj, rfl, hR, hU, hD⟩ := hrel
              clear R2' UX1
              obtain ⟨q0, q1, q2, q3⟩ := hU.out
              have d0 : (0 : Int) ≤ (j : Int) := by omega
              by_cases hjl : j < ol.length
              · have g3 : decide (j < ol.length) = true := by simpa using hjl
                have d1 : (j : Int) < (ol.length : Int) := by omega
                have bq : Below (w1.heap.size + 1) wg wr := BL.out.trans hR.out.bel
                obtain ⟨b', off', rfl, hbb', hc⟩ := RO.out.sts.at' (by intro e; rw [e] at hjl; simp at hjl)
                have cl := ((u2.out.trans (bq.mono (show w.heap.size ≤ w1.heap.size + 1 by omega))).cell (p := ⟨b', off' + j, none⟩) hbb').trans (hc j hjl)
                rw [show ol.getD j ByteArray.empty = ol[j] by simp [List.getD_eq_getElem?_getD, hjl]] at cl
                have hAj : A + j < M.length := by omega
                obtain ⟨bm, om, hpv, hbm, mc0, mc1⟩ := itE_cell (MR0.out.same hR.out.le (fun ad had => hR.out.far ad.block (ML.out ad.block (by rw [had]; rfl)).2 (by have := (ML.out ad.block (by rw [had]; rfl)).1; omega))) hAj
                have QN := qh_next ol M A j hjl hAj
                have IA := IV.out (A + j) hAj
                have XB := RC.out.2.2.1 M[A + j] (List.getElem_mem hAj)
                obtain ⟨⟨xi, xs⟩, hxm⟩ : ∃ y, y = M[A + j] := ⟨_, rfl⟩
                rw [← hxm] at mc0 mc1 QN IA XB
                dsimp only at mc0 mc1 QN IA XB
                clear hxm hc
                have wz : IntKind.i64.wrap ((A : Int) + (j : Int)) = (A : Int) + (j : Int) := IntWalk.i64_in _ (by omega)
                have d2 : (A : Int) + (j : Int) < (M.length : Int) := by omega
                have d3 : (0 : Int) ≤ (A : Int) + (j : Int) := by omega
                have b3 := up_alloc (Below.refl wr.heap.size wr) (.cells #[.int .i64 xi, .string xs] 100 (0, 0))
                have RU := hR.out.up b3
                have UU := hU.out.up b3
                cases hvd : Tp.vd K (A + j) with
                | none =>
                  have h0 := IA.2 hvd
                  obtain ⟨X, rfl⟩ : ∃ X : Nat, xi = (X : Int) := ⟨xi.toNat, by omega⟩
                  rw [if_pos h0, Int.toNat_natCast] at QN
                  have hX : X < 400 := by omega
                  have hd : Hid (∀ j' (_ : j' < j + 1) (h2 : j' < ol.length) y, Tp.vd K (A + j') = some y → y = ol[j']) := Lib.hid (fun j' h1 h2 y hy => by
                    rcases Nat.lt_or_ge j' j with h3 | h3
                    · exact hD.out j' h3 h2 y hy
                    · obtain rfl : j' = j := by omega
                      rw [hvd] at hy; cases hy)
                  have k1 : decide ((X : Int) < 0) = false := decide_eq_false (by omega)
                  have k2 : decide ((0 : Int) ≤ (X : Int)) = true := decide_eq_true h0
                  have RHH := Lib.hid RU
                  have QNH := Lib.hid QN
                  have UUH := Lib.hid UU
                  obtain ⟨gs, gc, gf'⟩ : ∃ s, (wr.alloc (.cells #[.int .i64 (X : Int), .string xs] 100 (0, 0))).cell? ⟨w1.heap.size + 1, X, none⟩ = some (.string s) ∧ (wr.alloc (.cells #[.int .i64 (X : Int), .string xs] 100 (0, 0))).frozen? ⟨w1.heap.size + 1, X, none⟩ = false := ⟨_, (RU.cell hX).1, (RU.cell hX).2 X⟩
                  have i0 : (wr.alloc (.cells #[.int .i64 (X : Int), .string xs] 100 (0, 0))).cell? ⟨wr.heap.size, 0, none⟩ = some (.int .i64 (X : Int)) := by rw [World.cell?_alloc_mark]; rfl
                  have u1' := UU.c1
                  have cl' := cell_up cl (.cells #[.int .i64 (X : Int), .string xs] 100 (0, 0))
                  subst hpv
                  clear IA RU UU QN hD
                  go_wp2_with fail
                  obtain ⟨W5, hW5⟩ : ∃ W5, W5 = wr.alloc (.cells #[.int .i64 (X : Int), .string xs] 100 (0, 0)) := ⟨_, rfl⟩
                  rw [← hW5] at gc gf' i0 u1' cl' RHH UUH ⊢
                  clear hW5 b3 q0 q1 q2 q3 cl mc0 mc1
                  have RN2 : ∀ n : Nat, Hid (Rg (w1.heap.size + 1) wo.heap.size wo ((W5.drewN n).setCell ⟨w1.heap.size + 1, X, none⟩ (.string ol[j])) (Tp.sets g1 (Q ++ Tp.qh (ol.take (j + 1)) (M.drop A))) (.slice p1 (L.length + (A - a)) cp1) L1') := fun n => Lib.hid (by
                    have := (RHH.out.up (below_drewN (Below.refl _ _) n)).set hX ol[j]
                    rwa [← Tp.sets_snoc, List.append_assoc, ← QNH.out] at this)
                  have UN2 : ∀ n : Nat, Hid (Hu ((W5.drewN n).setCell ⟨w1.heap.size + 1, X, none⟩ (.string ol[j])) wp.heap.size (A : Int) (.slice (some ⟨b', off', none⟩) ol.length o3) (.slice n1 nl.length n3)) := fun n => Lib.hid ((UUH.out.up (below_drewN (Below.refl _ _) n)).same (Below.heap_setCell _ _ _ _ (by have := RHH.out.gC; have := UUH.out.lt; dsimp only; omega)) (by rw [World.size_setCell]; exact Nat.le_refl _))
                  have bx : (X : Int) < 400 := by omega
                  clear XB
                  go_quiet (fail)
                  go_wp2_with fail
                  refine wp_region_still_tail 9 (by kernel_rfl) (by kernel_rfl) ?_
                  change wpStill _ _ ((W5.drewN nq).drewN 1) (fun a' => wpList _ _ _ _ a' ((W5.drewN nq).drewN 1)) _ _
                  simp only [List.take_succ_cons, List.take_zero, List.drop_succ_cons, List.drop_zero, World.drewN_drewN]
                  repeat still_step
                  try refine wpStill_nil ?_
                  go_wp2_with fail
                  go_roundw
                  case rel => exact ⟨j + 1, hjl, by go_num, RN2 _, UN2 _, hd⟩
                  case measure => first | (simp [intOf]; done) | (simp [intOf]; omega)
                | some y =>
                  have hxy := IA.1 y hvd
                  injection hxy with hx1 hx2
                  subst hx1 hx2
                  rw [if_neg (by decide), List.append_nil] at QN
                  have RHH : Hid (Rg (w1.heap.size + 1) wo.heap.size wo (wr.alloc (.cells #[.int .i64 (-1), .string xs] 100 (0, 0))) (Tp.sets g1 (Q ++ Tp.qh (ol.take (j + 1)) (M.drop A))) (.slice p1 (L.length + (A - a)) cp1) L1') := Lib.hid (by rw [QN]; exact RU)
                  have UUH := Lib.hid UU
                  have i0 : (wr.alloc (.cells #[.int .i64 (-1), .string xs] 100 (0, 0))).cell? ⟨wr.heap.size, 0, none⟩ = some (.int .i64 (-1)) := by rw [World.cell?_alloc_mark]; rfl
                  have i1 : (wr.alloc (.cells #[.int .i64 (-1), .string xs] 100 (0, 0))).cell? ⟨wr.heap.size, 1, none⟩ = some (.string xs) := by rw [World.cell?_alloc_mark]; rfl
                  have u1' := UU.c1
                  have cl' := cell_up cl (.cells #[.int .i64 (-1), .string xs] 100 (0, 0))
                  have bqe := Lib.hid (bq.trans (b3.mono (show w1.heap.size + 1 ≤ wr.heap.size by have := hR.out.le; have := hR.out.gC; omega)))
                  subst hpv
                  by_cases hy : xs = ol[j]
                  · have t1 := tl_true hy
                    have t2 : (xs.toList != ol[j].toList) = false := by unfold bne; rw [t1]; rfl
                    have hd : Hid (∀ j' (_ : j' < j + 1) (h2 : j' < ol.length) y, Tp.vd K (A + j') = some y → y = ol[j']) := Lib.hid (fun j' h1 h2 y hy' => by
                      rcases Nat.lt_or_ge j' j with h3 | h3
                      · exact hD.out j' h3 h2 y hy'
                      · obtain rfl : j' = j := by omega
                        rw [hvd] at hy'; rw [← Option.some.inj hy']; exact hy)
                    clear IA RU UU QN hD hvd XB hy
                    go_wp2_with fail
                    obtain ⟨W5, hW5⟩ : ∃ W5, W5 = wr.alloc (.cells #[.int .i64 (-1), .string xs] 100 (0, 0)) := ⟨_, rfl⟩
                    rw [← hW5] at i0 i1 u1' cl' RHH UUH ⊢
                    clear hW5 b3 q0 q1 q2 q3 cl mc0 mc1 bqe
                    have RN2 := fun (n : Nat) => Lib.hid (RHH.out.up (below_drewN (Below.refl _ _) n))
                    have UN2 := fun (n : Nat) => Lib.hid (UUH.out.up (below_drewN (Below.refl _ _) n))
                    go_quiet (fail)
                    go_wp2_with fail
                    go_roundw
                    case rel => exact ⟨j + 1, hjl, by go_num, RN2 _, UN2 _, hd⟩
                    case measure => first | (simp [intOf]; done) | (simp [intOf]; omega)
                  · have t1 := tl_false hy
                    have t2 : (xs.toList != ol[j].toList) = true := by unfold bne; rw [t1]; rfl
                    have CF : Hid (kfC hs ks = 19 ∧ kfI hs ks = -3 - (i : Int)) := Lib.hid (kf_some (by
                      rw [← KH.out]
                      have := cfi_some (K := K) (n := 0) hlt (fun j' hj' => CH.out j' hj' (by omega)) (by
                        rw [← HX.out]
                        exact cfh_true (y := xs) j hjl (by rw [Int.toNat_natCast]; exact hvd) hy)
                      rwa [Nat.zero_add] at this))
                    have wz3 : IntKind.i64.wrap (-3 - (i : Int)) = -3 - (i : Int) := IntWalk.i64_in _ (by omega)
                    clear IA RU UU QN hD hvd XB hy
                    go_wp2_with fail
                    obtain ⟨W5, hW5⟩ : ∃ W5, W5 = wr.alloc (.cells #[.int .i64 (-1), .string xs] 100 (0, 0)) := ⟨_, rfl⟩
                    rw [← hW5] at i0 i1 u1' cl' bqe ⊢
                    clear hW5 b3 q0 q1 q2 q3 cl mc0 mc1 RHH UUH
                    go_quiet (fail)
                    go_wp2_with fail
                    refine (at_any 19 (-3 - (i : Int)) _).mono ?_
                    rintro e w7 ⟨rfl, hb7⟩
                    have bq7 := (bqe.out.trans (below_drewN (Below.refl _ _) nq)).trans (hb7.mono (by have := bqe.out.size; show w1.heap.size + 1 ≤ W5.heap.size; omega))
                    have R8 := R2.out.mono bq7 (by omega)
                    have F8 := F2.out.mono bq7 (by omega)
                    have U8 := Lib.hid (u2.out.trans (bq7.mono (show w.heap.size ≤ w1.heap.size + 1 by omega)))
                    have EE : Hid (coC hs ks = 19 ∧ coI hs ks = -3 - (i : Int) ∧ coT hs ks = []) := Lib.hid (by
                      have := co_conf E.out (by rw [CF.out.1]; decide)
                      rw [CF.out.1, CF.out.2] at this
                      exact this)
                    obtain ⟨dr, d0, d1⟩ := put_both (v := .slice none 0 0) F8 R8 (by omega) 19 (-3 - (i : Int))
                    have rc := R8.c
                    have rf := R8.f
                    obtain ⟨a0, a1, a2, a3, a4⟩ := F8
                    clear bq7 hb7
                    go_wp2_with fail
                    refine bodyPost_ret (v := .tuple #[.agg #[.slice none 0 0], .agg #[.int .i64 19, .int .i64 (-3 - (i : Int))]]) (by simp [results, Try.results29, go_sem, d0, d1, dr]) rfl ⟨none, 0, by rw [EE.out.1, EE.out.2.1, EE.out.2.2]; rfl, by rw [EE.out.2.2]; exact PtB.nil _ _, fun _ => rfl, by rw [EE.out.2.2]; exact Nat.zero_le _, ((U8.out.setCell (by dsimp only; omega) _).setCell (by dsimp only; omega) _).setCell (by dsimp only; omega) _⟩
              · have g3 : decide (j < ol.length) = false := by simpa using hjl
                obtain rfl : j = ol.length := by omega
                rw [List.take_length] at hR
                have CHX : Hid (Tp.cfh K ks[i] = false) := Lib.hid (by
                  rw [← HX.out]
                  exact cfh_false (fun j hj y hy => hD.out j (by exact hj) hj y (by rwa [Int.toNat_natCast] at hy)))
                have NX2 := Lib.hid (show Tp.P2 ks M (i + 1) (A + ol.length) (L1' ++ nl.map (fun x => (-1, x))) (Q ++ Tp.qh ol (M.drop A)) by rw [HL1.out]; exact NX.out)
                obtain ⟨Q1, hQ1⟩ : ∃ Q1, Q1 = Q ++ Tp.qh ol (M.drop A) := ⟨_, rfl⟩
                rw [← hQ1] at hR NX2
                have RS : Hid (Rg (w1.heap.size + 1) wo.heap.size wo wr (Tp.sets g1 Q1) (.slice p1 (L.length + (A - a)) cp1) (L1' ++ (nl.take 0).map (fun x => ((-1 : Int), x)))) := Lib.hid (by rw [List.take_zero, List.map_nil, List.append_nil]; exact hR.out)
                clear hQ1 hR hD NX RH PH LS
                go_wp2_with fail
                go_loopw [14, 20] (fun v t20 wq => ∃ (j : Nat), j ≤ nl.length ∧ t20 = .int .i64 j ∧ Hid (Rg (w1.heap.size + 1) wo.heap.size wo wq (Tp.sets g1 Q1) v (L1' ++ (nl.take j).map (fun x => ((-1 : Int), x)))) ∧ Hid (Hu wq wp.heap.size (A : Int) (.slice o1 ol.length o3) (.slice n1 nl.length n3)) ∧ Hid (∀ b, v.ownBlock = some b → b ≠ wp.heap.size)) (fun _ t20 _ => nl.length - (intOf t20).toNat)
                case atStart => exact ⟨0, Nat.zero_le _, rfl, RS, hU, NB1⟩
                case round =>
                  obtain ⟨j, hj, rfl, hR, hU, hN⟩ := hrel
                  clear RS NB1
                  obtain ⟨pv', cv', rfl, -, -, -, -⟩ := hR.out.item
                  have hlen : (L1' ++ (nl.take j).map (fun x => ((-1 : Int), x))).length = L.length + (A - a) + j := by rw [List.length_append, List.length_map, List.length_take]; omega
                  rw [hlen] at hR hN ⊢
                  have c0' : (0 : Int) ≤ (j : Int) := by omega
                  obtain ⟨q0, q1, q2, q3⟩ := hU.out
                  have hle3 := hR.out.le
                  by_cases hjl : j < nl.length
                  · have g2 : decide (j < nl.length) = true := by simpa using hjl
                    have b4 : (j : Int) < (nl.length : Int) := by omega
                    have bq : Below w.heap.size w wr := u2.out.trans ((BL.out.trans hR.out.bel).mono (by omega))
                    obtain ⟨b', off', rfl, hbb', hc⟩ := RN.out.sts.at' (by intro e; rw [e] at hjl; simp at hjl)
                    have cl := (bq.cell (p := ⟨b', off' + j, none⟩) hbb').trans (hc j hjl)
                    rw [show nl.getD j ByteArray.empty = nl[j] by simp [List.getD_eq_getElem?_getD, hjl]] at cl
                    have b3 := up_alloc (Below.refl wr.heap.size wr) (.cells #[.int .i64 (-1), .string nl[j]] 100 (0, 0))
                    have RU := hR.out.up b3
                    have UU := hU.out.up b3
                    clear bq hc
                    go_wp2_with (at_builtin; refine Stop.out ?_)
                    refine ⟨?_⟩
                    refine wp_appE_at itE rfl (.tmp 172) (.tmp 179) rfl wo.heap.size (.slice pv' (L.length + (A - a) + j) cv') (L1' ++ (nl.take j).map (fun x => ((-1 : Int), x))) ((-1 : Int), nl[j]) _ 1 rfl RU.row rfl (it_one _ _ rfl (-1 : Int) nl[j] _) (by simp [itE]; omega) (by rw [hlen]; omega) (by simp; omega) ?_
                    intro v' w3 own gr hat
                    obtain ⟨gg, cc, rfl⟩ := own_succ (m := L.length + (A - a) + j) own (by rw [hlen])
                    have R2' := RU.push gr own
                    rw [List.append_assoc, ← List.map_singleton (f := fun x => ((-1 : Int), x)), ← List.map_append, ← List.take_succ_eq_append_getElem hjl] at R2'
                    have N2 : Hid (∀ b, (Value.slice (some ⟨gg, 0, none⟩) (L.length + (A - a) + j + 1) cc).ownBlock = some b → b ≠ wp.heap.size) := Lib.hid (fun b hb => by
                      rcases hat with e | e
                      · exact hN.out b (by rw [← e]; exact hb)
                      · rw [e] at hb
                        have e2 := Option.some.inj hb
                        have := b3.size
                        omega)
                    have U2' := Lib.hid (UU.grown gr (fun e => hN.out _ e rfl))
                    have R2'' := Lib.hid R2'
                    clear own gr hat RU UU R2' b3
                    go_wp2_with fail
                    go_roundw
                    case rel => exact ⟨j + 1, hjl, by go_num, R2'', U2', N2⟩
                    case measure => first | (simp [intOf]; done) | (simp [intOf]; omega)
                  · have g2 : decide (j < nl.length) = false := by simpa using hjl
                    obtain rfl : j = nl.length := by omega
                    rw [List.take_length] at hR
                    have hq1 := RN.out.sts.small
                    go_wp2_with fail
                    refine (refEnd_any (A : Int) o1 n1 ol.length o3 nl.length n3 _ (by omega) (by omega) (by omega)).mono ?_
                    rintro e w4 ⟨rfl, hb4⟩
                    have NXT : Hid (L2 (w1.heap.size + 1) wo.heap.size wo ks M g1 K (i + 1) (A + ol.length) w4 (.slice pv' (L.length + (A - a) + nl.length) cv')) := Lib.hid ⟨⟨_, Q1, hR.out.up hb4, NX2.out, by simp only [List.length_append, List.length_map]; omega, fun y hy => by
                      rcases List.mem_append.1 hy with hy | hy
                      · exact LS1.out y hy
                      · obtain ⟨x, hx, rfl⟩ := List.mem_map.1 hy
                        exact hq1 x hx⟩, fun j' h1 h2 => by
                      rcases Nat.lt_or_ge j' i with h3 | h3
                      · exact CH.out j' h3 h2
                      · obtain rfl : j' = i := by omega
                        exact CHX.out, by omega⟩
                    clear hR hb4 hq1
                    go_wp2_with fail
                    go_roundw
                    case rel => exact ⟨i + 1, A + ol.length, hlt, by go_num, by go_num, NXT⟩
                    case measure => first | (simp [intOf]; done) | (simp [intOf]; omega)
          · have g2 : decide (i < ks.length) = false := by simpa using hlt
            obtain rfl : i = ks.length := by omega
            have s1 := fun w => run_fromI pv M.length cv a (by omega) w
            have hcv := MC.out.2
            have hcw := MC.out.1
            have hdl : ((M.drop a).take (M.length - a)).length = M.length - a := by rw [List.length_take, List.length_drop]; omega
            have hdt : (M.drop a).take (M.length - a) = M.drop a := List.take_of_length_le (by rw [List.length_drop]; omega)
            obtain ⟨pd1, pd2⟩ := PH.out.done
            have QS : ∀ z ∈ Q, z.2.size ≤ 140737488351232 := by rw [← pd2]; exact Tp.qd_small VV.out.2 M
            have GSM := Lib.hid (Tp.sets_small Q g1 G1S.out QS)
            have R3 := RC.out.2.2.2
            rw [pd1, pd2] at R3
            have R3H := Lib.hid R3
            clear R3 pd1 pd2 QS
            have wsz := RH.out.le
            go_wp2_with (at_builtin; refine Stop.out ?_)
            refine ⟨?_⟩
            refine wp_appR itE rfl (.tmp 183) (.tmp 186) rfl wo.heap.size (.slice pu L.length cu) L ((M.drop a).take (M.length - a)) (sAtN pv a cv 2) (cv - a) rfl RH.out.row (by rw [hdl]; rfl) (MR.out.part a (M.length - a) cv hcv) (sAtN_cap hcw) (by rw [hdl]; simp [itE]; omega) (by rw [hdl]; omega) (by omega) ?_
            intro v' w2 own gr hat
            rw [hdt] at own
            obtain ⟨Lst, hLst⟩ : ∃ Lst, Lst = L ++ M.drop a := ⟨_, rfl⟩
            rw [← hLst] at own R3H
            have hll : Lst.length = L.length + (M.length - a) := by rw [hLst, List.length_append, List.length_drop]
            have LB : Hid (∀ y ∈ Lst, y.1 < 400 ∧ y.2.size ≤ 140737488351232) := Lib.hid (fun y hy => by
              rw [hLst] at hy
              rcases List.mem_append.1 hy with hy' | hy'
              · refine ⟨?_, LS.out y hy'⟩
                have hr := PH.out.done.1
                have : y ∈ Tp.rn (Tp.sp true 0 ks) M := by rw [hr]; exact hy
                rcases Tp.rn_mem _ _ y this with h1 | h1
                · exact RC.out.2.2.1 y h1
                · omega
              · exact ⟨RC.out.2.2.1 y (List.mem_of_mem_drop hy'), SM.out y (List.mem_of_mem_drop hy')⟩)
            obtain ⟨p1, cp1, rfl⟩ : ∃ p cap, v' = .slice p Lst.length cap := by
              obtain ⟨p, c, e, -⟩ := row_of_own own
              exact ⟨p, c, e⟩
            have RL := RH.out.push gr own
            obtain ⟨gg, hgg⟩ : ∃ gg, gg = Tp.sets g1 Q := ⟨_, rfl⟩
            rw [← hgg] at RL R3H GSM
            have RLH := Lib.hid RL
            have GL := RL.len
            have HLL := Lib.hid hll
            obtain ⟨p1', cp1', e9, hrow9, -, -, hb9⟩ := RL.item
            injection e9 with e91 _ _
            subst e91
            have LR := Lib.hid hrow9
            have b4 := up_alloc (Below.refl w2.heap.size w2) (.cells #[.slice none 0 0] 41 (0, 0))
            have OUT := One.new w2 (.slice none 0 0) 41 w2.heap.size rfl
            have hz4 : (w2.alloc (.cells #[.slice none 0 0] 41 (0, 0))).heap.size = w2.heap.size + 1 := by simp
            have RO3 : Hid (Ro (w1.heap.size + 1) w2.heap.size (w2.alloc (.cells #[.slice none 0 0] 41 (0, 0))) (w2.alloc (.cells #[.slice none 0 0] 41 (0, 0))) (.slice none 0 0) [] [] (.slice none 0 0) []) := Lib.hid ⟨Below.refl _ _, by omega, by have := RL.gC; have := RL.le; omega, OUT.c, OUT.f, ownE_nil _ _ _, rfl, (fun j hj => by simp at hj), ownE_nil _ _ _, (fun b hb => by cases hb), (fun x hx => by cases hx)⟩
            have GS : Hid (Sts (w2.alloc (.cells #[.slice none 0 0] 41 (0, 0))) (some ⟨w1.heap.size + 1, 0, none⟩) gg ∧ True) := Lib.hid ⟨by
              obtain ⟨pg', cg', eg', hrg, -⟩ := row_of_own (RL.up b4).gone
              injection eg' with eg1 _ _
              rw [eg1]
              exact hrg.sts GSM.out (by omega), trivial⟩
            have LR4 := Lib.hid (LR.out.mono b4)
            have B4 := Lib.hid ((BL.out.trans RL.bel).trans (b4.mono (by have := RL.gC; have := RL.le; omega)))
            have B34 := Lib.hid b4
            clear own gr hat RL hLst hgg hrow9 hb9 b4 OUT s1 hll
            go_wp2_with fail
            obtain ⟨W3, hW3⟩ : ∃ W3, W3 = w2.alloc (.cells #[.slice none 0 0] 41 (0, 0)) := ⟨_, rfl⟩
            rw [← hW3] at RO3 GS B4 hz4 B34 ⊢
            clear hW3 LR4
            have HZ4 := Lib.hid hz4
            have HLLl := Lib.hid hLl
            clear hz4
            go_loopw [22, 23, 24] (fun t22 fv t24 wq => ∃ (j fr : Nat) (fresh : List ByteArray) (H : List Tp.H) (v : Value) (rs : List (Int × Sv × Sv)), j ≤ Lst.length ∧ t22 = .int .i64 fr ∧ t24 = .int .i64 j ∧ fr ≤ 400 ∧ fresh.length ≤ j ∧ H.length ≤ j ∧ Hid (Ro (w1.heap.size + 1) w2.heap.size W3 wq v rs H fv fresh) ∧ Hid (Tp.P3 gg Lst j fr fresh H)) (fun _ _ t24 _ => Lst.length - (intOf t24).toNat)
            case atStart => exact ⟨0, 0, [], [], _, [], Nat.zero_le _, rfl, rfl, by omega, by simp, by simp, RO3, Lib.hid (Tp.P3.start gg Lst)⟩
            case round =>
              obtain ⟨j, fr, fresh, H, v, rs, hj, rfl, rfl, hfr, hfl, hHl, hR, hP⟩ := hrel
              clear RO3
              obtain ⟨pf, cf, rfl, -, -, -, -⟩ := row_of_own hR.out.fo
              have d0 : (0 : Int) ≤ (j : Int) := by omega
              have hRle := hR.out.le
              have hlb : Lst.length ≤ 40000 := by have := HLL.out; have := HLLl.out; omega
              by_cases hjl : j < Lst.length
              · have g3 : decide (j < Lst.length) = true := by simpa using hjl
                have d1 : (j : Int) < (Lst.length : Int) := by omega
                obtain ⟨bm, om, hpv, hbm, mc0, mc1⟩ := itE_cell LR.out hjl
                replace mc0 := (hR.out.bel.cell (p := ⟨bm, om + j * 2, none⟩) hbm).trans ((B34.out.cell (p := ⟨bm, om + j * 2, none⟩) hbm).trans mc0)
                replace mc1 := (hR.out.bel.cell (p := ⟨bm, om + j * 2 + 1, none⟩) hbm).trans ((B34.out.cell (p := ⟨bm, om + j * 2 + 1, none⟩) hbm).trans mc1)
                have LBj := LB.out Lst[j] (List.getElem_mem hjl)
                have PI := Lib.hid (hP.out.ins hjl)
                have PK := Lib.hid (hP.out.keep R3H.out.2 hjl)
                obtain ⟨⟨xi, xs⟩, hxm⟩ : ∃ y, y = Lst[j] := ⟨_, rfl⟩
                rw [← hxm] at mc0 mc1 LBj PI PK
                dsimp only at mc0 mc1 LBj PI PK
                clear hxm hP
                subst hpv
                by_cases hneg : xi < 0
                · have k1 : decide (xi < 0) = true := decide_eq_true hneg
                  have NP := Lib.hid (PI.out hneg)
                  have b3 := up_alloc (Below.refl wr.heap.size wr) (.cells #[.string xs] 9 (0, 0))
                  have RU := hR.out.up b3
                  have hb3 := b3.size
                  go_wp2_with (at_builtin; refine Stop.out ?_)
                  refine ⟨?_⟩
                  refine wp_appE_at strE rfl (.tmp 200) (.tmp 206) rfl (w2.heap.size + 1) (.slice pf fresh.length cf) fresh xs _ 1 rfl RU.fo rfl (str_one' wr wr.heap.size rfl xs _) (by simp [strE]; omega) (by omega) (by omega) ?_
                  intro v' w5 own gr hat
                  obtain ⟨g5, c5, rfl⟩ := own_succ (m := fresh.length) own rfl
                  have NR : Hid (Ro (w1.heap.size + 1) w2.heap.size W3 w5 v rs H (.slice (some ⟨g5, 0, none⟩) (fresh.length + 1) c5) (fresh ++ [xs])) := Lib.hid (RU.fresh xs LBj.2 gr own hat)
                  clear own gr hat RU b3 hR PI PK
                  go_wp2_with fail
                  go_roundw
                  case rel => exact ⟨j + 1, fr, fresh ++ [xs], H, v, rs, hjl, rfl, by go_num, hfr, by simp; omega, by omega, NR, NP⟩
                  case measure => first | (simp [intOf]; done) | (simp [intOf]; omega)
                · obtain ⟨X, rfl⟩ : ∃ X : Nat, xi = (X : Int) := ⟨xi.toNat, by omega⟩
                  obtain ⟨hfX, NP0⟩ := PK.out hneg
                  rw [Int.toNat_natCast] at hfX NP0
                  have NP := Lib.hid NP0
                  have k1 : decide ((X : Int) < 0) = false := decide_eq_false hneg
                  have hX : X < 400 := by omega
                  have wz : IntKind.i64.wrap ((X : Int) + 1) = (X : Int) + 1 := IntWalk.i64_in _ (by omega)
                  clear NP0 PI PK
                  by_cases hc : fr < X ∨ 0 < fresh.length
                  · have s2 := fun w => run_mid (some ⟨w1.heap.size + 1, 0, none⟩) 400 400 fr X hfX (by omega) w
                    have hml : (mid gg fr X).length = X - fr := mid_size gg fr X (by have := GL; omega)
                    have GSW : Sts wr (some ⟨w1.heap.size + 1, 0, none⟩) gg := GS.out.1.kept hR.out.bel.size (fun ad had => hR.out.bel.block _ (by cases had; exact hR.out.gp))
                    have GRD : Rd wr (sAt (some ⟨w1.heap.size + 1, 0, none⟩) fr 400, X - fr, 400 - fr) (mid gg fr X) := ⟨GSW.mid fr X 400 hfX (by omega) (by omega), hml.symm, (fun e => by unfold sAt at e; split at e <;> cases e), (by rw [hml]; dsimp only; omega)⟩
                    have GBK : ∀ ad, sAt (some ⟨w1.heap.size + 1, 0, none⟩) fr 400 = some ad → w1.heap.size + 1 ≤ ad.block ∧ ad.block < w2.heap.size := fun ad e => by
                      have h8 : ad.block = w1.heap.size + 1 := by
                        unfold sAt at e
                        split at e
                        · cases e; rfl
                        · rw [Option.map_some, add_at] at e; cases e; rfl
                      have := hR.out.gp
                      omega
                    have pc0 := hR.out.c
                    have hvs : rs.length ≤ j := by rw [hR.out.len]; exact hHl
                    have NXT : Hid (∀ (ob : Obj) (g6 c6 : Nat) (w6 : World), OwnE hkE (w2.heap.size + 1) w6 (.slice (some ⟨g6, 0, none⟩) (rs.length + 1) c6) (rs ++ [((fr : Int), (sAt (some ⟨w1.heap.size + 1, 0, none⟩) fr 400, X - fr, 400 - fr), (pf, fresh.length, cf))]) → (wr.alloc ob).grownBy w6 v.ownBlock → (v.ownBlock = some g6 ∨ g6 = wr.heap.size + 1) →
                        Ro (w1.heap.size + 1) w2.heap.size W3 (w6.setCell ⟨w2.heap.size, 0, none⟩ (.slice (some ⟨g6, 0, none⟩) (rs.length + 1) c6)) (.slice (some ⟨g6, 0, none⟩) (rs.length + 1) c6) (rs ++ [((fr : Int), (sAt (some ⟨w1.heap.size + 1, 0, none⟩) fr 400, X - fr, 400 - fr), (pf, fresh.length, cf))]) (H ++ [⟨(fr : Int), mid gg fr X, fresh⟩]) (.slice none 0 0) [] ∧ w6.cell? ⟨w2.heap.size, 0, none⟩ = some v ∧ w6.frozen? ⟨w2.heap.size, 0, none⟩ = false) := Lib.hid (fun ob g6 c6 w6 own hG hat => by
                      have ha := up_alloc (Below.refl wr.heap.size wr) ob
                      exact (hR.out.up ha).push (by omega) (fr : Int) _ _ (GRD.mono ha) GBK hG own (by
                        rcases hat with e | e
                        · exact .inl (by rw [e]; rfl)
                        · exact .inr ⟨g6, by rw [World.size_alloc]; omega, rfl⟩))
                    have OWNR := Lib.hid hR.out.own
                    have qa := cell_up hR.out.c (.cells #[.int .i64 (fr : Int), .slice (sAt (some ⟨w1.heap.size + 1, 0, none⟩) fr 400) (X - fr) (400 - fr), .slice pf fresh.length cf] 81 (0, 0))
                    have NP2 := Lib.hid (by have := NP.out; rwa [if_pos hc] at this : Tp.P3 gg Lst (j + 1) (X + 1) [] (H ++ [⟨(fr : Int), mid gg fr X, fresh⟩]))
                    have BCELL : Hid (∀ (A : World), Below w2.heap.size W3 A → A.cell? ⟨bm, om + j * 2, none⟩ = some (.int .i64 (X : Int))) := Lib.hid (fun A hA => (hA.cell (p := ⟨bm, om + j * 2, none⟩) hbm).trans ((hR.out.bel.cell (p := ⟨bm, om + j * 2, none⟩) hbm).symm.trans mc0))
                    have hRsz := hR.out.le
                    clear GSW GRD GBK hml mc1
                    rcases Nat.lt_or_ge fr X with hfx | hfx
                    · have k2 : decide (fr < X) = true := decide_eq_true hfx
                      clear hR hc
                      go_wp2_with fail
                      go_region_law (skip; refine step_appE hkE _ (by rfl) (.tmp 221) (.tmp 233) (by rfl) (w2.heap.size + 1) v rs ((fr : Int), (sAt (some ⟨w1.heap.size + 1, 0, none⟩) fr 400, X - fr, 400 - fr), (pf, fresh.length, cf)) ⟨wr.heap.size, 0, none⟩ 1 (by rfl) (OWNR.out.alloc _) (by rfl) (hunk_one _ _ (sAt (some ⟨w1.heap.size + 1, 0, none⟩) fr 400, X - fr, 400 - fr) (pf, fresh.length, cf) _) (by simp [hkE]; omega) (by omega) (by simp; omega) (wr.heap.size + 1) (by simp) ?_; intro gg6 cc6 w6 own6 gr6 hat6 hlt6
                                     have G2 : World.grownBy (wr.alloc (.cells #[.int .i64 (fr : Int), .slice (sAt (some ⟨w1.heap.size + 1, 0, none⟩) fr 400) (X - fr) (400 - fr), .slice pf fresh.length cf] 81 (0, 0))) w6 v.ownBlock := ⟨gr6.os, gr6.tape, gr6.output, gr6.size, gr6.block⟩
                                     obtain ⟨hRO6, z1, z2⟩ := NXT.out _ gg6 cc6 w6 own6 G2 hat6)
                      all_goals
                        have HR6 := Lib.hid hRO6
                        have mc6 := BCELL.out _ hRO6.bel
                        clear own6 gr6 hat6 G2 hRO6
                        go_wp2_with fail
                        go_roundw
                        case rel => exact ⟨j + 1, X + 1, [], H ++ [⟨(fr : Int), mid gg fr X, fresh⟩], _, _, hjl, by go_num, by go_num, by omega, by simp, by simp; omega, HR6, NP2⟩
                        case measure => first | (simp [intOf]; done) | (simp [intOf]; omega)
                    · have k2 : decide (fr < X) = false := decide_eq_false (by omega)
                      have k3 : decide (0 < fresh.length) = true := decide_eq_true (by omega)
                      have k4 : decide ((0 : Int) < (fresh.length : Int)) = true := decide_eq_true (by omega)
                      clear hR hc hfx
                      go_wp2_with fail
                      go_region_law (skip; refine step_appE hkE _ (by rfl) (.tmp 221) (.tmp 233) (by rfl) (w2.heap.size + 1) v rs ((fr : Int), (sAt (some ⟨w1.heap.size + 1, 0, none⟩) fr 400, X - fr, 400 - fr), (pf, fresh.length, cf)) ⟨wr.heap.size, 0, none⟩ 1 (by rfl) (OWNR.out.alloc _) (by rfl) (hunk_one _ _ (sAt (some ⟨w1.heap.size + 1, 0, none⟩) fr 400, X - fr, 400 - fr) (pf, fresh.length, cf) _) (by simp [hkE]; omega) (by omega) (by simp; omega) (wr.heap.size + 1) (by simp) ?_; intro gg6 cc6 w6 own6 gr6 hat6 hlt6
                                     have G2 : World.grownBy (wr.alloc (.cells #[.int .i64 (fr : Int), .slice (sAt (some ⟨w1.heap.size + 1, 0, none⟩) fr 400) (X - fr) (400 - fr), .slice pf fresh.length cf] 81 (0, 0))) w6 v.ownBlock := ⟨gr6.os, gr6.tape, gr6.output, gr6.size, gr6.block⟩
                                     obtain ⟨hRO6, z1, z2⟩ := NXT.out _ gg6 cc6 w6 own6 G2 hat6)
                      all_goals
                        have HR6 := Lib.hid hRO6
                        have mc6 := BCELL.out _ hRO6.bel
                        clear own6 gr6 hat6 G2 hRO6
                        go_wp2_with fail
                        go_roundw
                        case rel => exact ⟨j + 1, X + 1, [], H ++ [⟨(fr : Int), mid gg fr X, fresh⟩], _, _, hjl, by go_num, by go_num, by omega, by simp, by simp; omega, HR6, NP2⟩
                        case measure => first | (simp [intOf]; done) | (simp [intOf]; omega)
                  · have k2 : decide (fr < X) = false := decide_eq_false (by omega)
                    have k3 : decide (0 < fresh.length) = false := decide_eq_false (by omega)
                    have k4 : decide ((0 : Int) < (fresh.length : Int)) = false := decide_eq_false (by omega)
                    have NR := Lib.hid hR.out.reset
                    have NP2 : Hid (Tp.P3 gg Lst (j + 1) (X + 1) [] H) := Lib.hid (by have := NP.out; rwa [if_neg hc, List.append_nil] at this)
                    clear hR hc
                    go_wp2_with fail
                    go_roundw
                    case rel => exact ⟨j + 1, X + 1, [], H, v, rs, hjl, by go_num, by go_num, by omega, by simp, by omega, NR, NP2⟩
                    case measure => first | (simp [intOf]; done) | (simp [intOf]; omega)
              · have g3 : decide (j < Lst.length) = false := by simpa using hjl
                obtain rfl : j = Lst.length := by omega
                have hcm : H = Tp.cm hs ks := hP.out.done.trans R3H.out.1
                subst hcm
                obtain ⟨po, co, rfl, hpt, hco, hlo⟩ := hR.out.ptb
                have PT := Lib.hid hpt
                have HCO := Lib.hid (And.intro hco hlo)
                have bR := hR.out.bel
                have pcell := hR.out.c
                have hgp := hR.out.gp
                have bq7 : Below (w1.heap.size + 1) wg wr := B4.out.trans (bR.mono (by omega))
                have R7 := Lib.hid (R2.out.mono bq7 (by omega))
                have F7 := Lib.hid (F2.out.mono bq7 (by omega))
                have u7 := u2.out.trans (bq7.mono (show w.heap.size ≤ w1.heap.size + 1 by omega))
                have CF := Lib.hid (co_fit E.out (kf_none (show Tp.cfi (Tp.iv 0 hs) ks 0 = none by rw [← KH.out]; exact cfi_calm (fun j hj => CH.out j hj hj))).1)
                clear hpt hco hlo hP bR bq7 hR
                go_wp2_with fail
                refine (refFits_any po (Tp.cm hs ks) _ co _ rfl PT.out.self (by omega)).mono ?_
                rintro e w8 ⟨rfl, hb8⟩
                have R8 := R7.out.up hb8
                have F8 := F7.out.up hb8
                have u8 := Lib.hid (up_call u7 hb8)
                have PT8 := Lib.hid (PT.out.up hb8)
                have rc := R8.c
                have rf := R8.f
                clear hb8 R7 F7 PT pcell
                by_cases hf : Tp.pC (Tp.cm hs ks) = 0
                · have E1 : fitS (Tp.cm hs ks) po (Tp.cm hs ks).length co = .slice po (Tp.cm hs ks).length co := if_pos hf
                  have E2 : fitC (Tp.cm hs ks) = 0 := if_pos hf
                  have E3 : fitI (Tp.cm hs ks) = 0 := if_pos hf
                  have EE : Hid (coC hs ks = 0 ∧ coI hs ks = 0 ∧ coT hs ks = Tp.cm hs ks) := Lib.hid ⟨by rw [CF.out.1, E2], by rw [CF.out.2.1, E3], CF.out.2.2.1 hf⟩
                  rw [E1, E2, E3]
                  clear E1 E2 E3 hf
                  obtain ⟨dr, d0, d1⟩ := put_both (v := .slice po (Tp.cm hs ks).length co) F8 R8 (by omega) 0 0
                  obtain ⟨a0, a1, a2, a3, a4⟩ := F8
                  have UF : Hid (Below w.heap.size w (((w8.setCell ⟨w.heap.size + 1 + 1, 0, none⟩ (.slice po (Tp.cm hs ks).length co)).setCell ⟨w.heap.size + 1 + 1 + 1, 0, none⟩ (.int .i64 0)).setCell ⟨w.heap.size + 1 + 1 + 1, 1, none⟩ (.int .i64 0))) :=
                    Lib.hid (((u8.out.setCell (by dsimp only; omega) _).setCell (by dsimp only; omega) _).setCell (by dsimp only; omega) _)
                  have PF := Lib.hid ((((PT8.out.set (g := w.heap.size + 1 + 1) (k := 0) (by omega) (.slice po (Tp.cm hs ks).length co)).set (g := w.heap.size + 1 + 1 + 1) (k := 0) (by omega) (.int .i64 0)).set (g := w.heap.size + 1 + 1 + 1) (k := 1) (by omega) (.int .i64 0)).le (show w.heap.size ≤ _ by omega))
                  go_wp2_with fail
                  refine bodyPost_ret (v := .tuple #[.agg #[.slice po (Tp.cm hs ks).length co], .agg #[.int .i64 0, .int .i64 0]]) (by simp [results, Try.results29, go_sem, d0, d1, dr]) rfl ⟨po, co, by rw [EE.out.1, EE.out.2.1, EE.out.2.2], by rw [EE.out.2.2]; exact PF.out, HCO.out.1, by rw [EE.out.2.2]; exact HCO.out.2, UF.out⟩
                · have E1 : fitS (Tp.cm hs ks) po (Tp.cm hs ks).length co = .slice none 0 0 := if_neg hf
                  have E2 : fitC (Tp.cm hs ks) = 10 := if_neg hf
                  have E3 : fitI (Tp.cm hs ks) = -1 := if_neg hf
                  have EE : Hid (coC hs ks = 10 ∧ coI hs ks = -1 ∧ coT hs ks = []) := Lib.hid ⟨by rw [CF.out.1, E2], by rw [CF.out.2.1, E3], CF.out.2.2.2 hf⟩
                  rw [E1, E2, E3]
                  clear E1 E2 E3 hf
                  obtain ⟨dr, d0, d1⟩ := put_both (v := .slice none 0 0) F8 R8 (by omega) 10 (-1)
                  obtain ⟨a0, a1, a2, a3, a4⟩ := F8
                  have UF : Hid (Below w.heap.size w (((w8.setCell ⟨w.heap.size + 1 + 1, 0, none⟩ (.slice none 0 0)).setCell ⟨w.heap.size + 1 + 1 + 1, 0, none⟩ (.int .i64 10)).setCell ⟨w.heap.size + 1 + 1 + 1, 1, none⟩ (.int .i64 (-1)))) :=
                    Lib.hid (((u8.out.setCell (by dsimp only; omega) _).setCell (by dsimp only; omega) _).setCell (by dsimp only; omega) _)
                  go_wp2_with fail
                  refine bodyPost_ret (v := .tuple #[.agg #[.slice none 0 0], .agg #[.int .i64 10, .int .i64 (-1)]]) (by simp [results, Try.results29, go_sem, d0, d1, dr]) rfl ⟨none, 0, by rw [EE.out.1, EE.out.2.1, EE.out.2.2]; rfl, by rw [EE.out.2.2]; exact PtB.nil _ _, fun _ => rfl, by rw [EE.out.2.2]; exact Nat.zero_le _, UF.out⟩
  · have EE := Lib.hid (co_fault (hs := hs) (ks := ks) h)
    have g1 : (Tp.prC hs ks != 0) = true := by simpa using h
    clear h
    obtain ⟨dr, d0, d1⟩ := put_both (v := .slice none 0 0) (F1.alloc (.cells #[.int .i64 (Tp.prC hs ks), .int .i64 (Tp.prI hs ks)] 25 (0, 0))) (R1.alloc (.cells #[.int .i64 (Tp.prC hs ks), .int .i64 (Tp.prI hs ks)] 25 (0, 0))) (by omega) (Tp.prC hs ks) (Tp.prI hs ks)
    have rc := cell_up R1.c (.cells #[.int .i64 (Tp.prC hs ks), .int .i64 (Tp.prI hs ks)] 25 (0, 0))
    have rf := frozen_up R1.c R1.f (.cells #[.int .i64 (Tp.prC hs ks), .int .i64 (Tp.prI hs ks)] 25 (0, 0))
    obtain ⟨a0, a1, a2, a3, a4⟩ := F1
    go_wp2_with fail
    go_region
    all_goals
      go_wp2_with fail
      refine bodyPost_ret (v := .tuple #[.agg #[.slice none 0 0], .agg #[.int .i64 (Tp.prC hs ks), .int .i64 (Tp.prI hs ks)]]) (by simp [results, Try.results29, go_sem, d0, d1, dr]) rfl ⟨none, 0, by rw [EE.out.1, EE.out.2.1, EE.out.2.2]; rfl, by rw [EE.out.2.2]; exact PtB.nil _ _, fun _ => rfl, by rw [EE.out.2.2]; exact Nat.zero_le _, ?_⟩
      (repeat' (first | (with_reducible exact Below.refl _ _) | (with_reducible assumption) | (with_reducible refine below_drewN ?_ _) | (with_reducible refine Below.setCell ?_ ?_ _) | (with_reducible refine Below.alloc ?_ ?_ _) | (with_reducible refine Below.drew ?_) | go_size))
end Go.Proofs.Ytbgnckbgpiajjaa
