
/-
  The program's Fuzzy, walked.
-/
import Derived.Test.YtcheggdfcdokiaaDoorUnA
import Derived.Test.YtcheggdfcdokiaaDoorTqD
namespace Go.Proofs.YtcheggdfcdokiaaDoor
open Go.RowKit
set_option maxRecDepth 4000

/-- a number: as an element -/
def intE : Enc Int where
  ty := 3
  sl := 30
  size := 1
  bytes := 8
  z := .int .i64 0
  enc n := [.int .i64 n]
  len _ := rfl
  one _ u h := by rw [List.mem_singleton.1 h]; rfl
  pos := by decide
  zs := rfl
  und := Tryd.underlying30
  inf := by kernel_rfl
theorem int_one (w : World) (H : Nat) (hH : w.heap.size = H) (n : Int) (t : TypeId) (k : Nat) (u : Value) (h : (intE.enc n)[k]? = some u) : (w.alloc (.cells #[.int .i64 n] t (0, 0))).cell? ((⟨H, 0, none⟩ : Addr).add k) = some u := by
  subst hH
  rw [add_at, Nat.zero_add, World.cell?_alloc_mark]
  simp only [intE] at h
  match k, h with
  | 0, h => simpa using h
/-- the moved patch and the offsets, while they are made -/
structure Fz (pg : Nat) (w : World) (v : Value) (rs : List (Int × Sv × Sv)) (vo : Value) (ds : List Int) : Prop where
  pc : w.cell? ⟨pg, 0, none⟩ = some v
  pf : w.frozen? ⟨pg, 0, none⟩ = false
  own : OwnE hkE (pg + 1) w v rs
  ints : OwnE intE (pg + 1) w vo ds
theorem Fz.lt {pg : Nat} {w : World} {v : Value} {rs : List (Int × Sv × Sv)} {vo : Value} {ds : List Int} (h : Fz pg w v rs vo ds) : pg < w.heap.size := cell_block_lt h.pc
theorem Fz.up {pg : Nat} {w w' : World} {v : Value} {rs : List (Int × Sv × Sv)} {vo : Value} {ds : List Int} (h : Fz pg w v rs vo ds) (hb : Below w.heap.size w w') : Fz pg w' v rs vo ds :=
  ⟨by rw [hb.cell (p := ⟨pg, 0, none⟩) h.lt, h.pc], by rw [hb.frozen (p := ⟨pg, 0, none⟩) h.lt, h.pf], h.own.up hb, h.ints.up hb⟩
theorem Fz.set {pg g k : Nat} {w : World} {v : Value} {rs : List (Int × Sv × Sv)} {vo : Value} {ds : List Int} (h : Fz pg w v rs vo ds) (hg : g ≠ pg) (h1 : v.ownBlock ≠ some g) (h2 : vo.ownBlock ≠ some g) (u : Value) : Fz pg (w.setCell ⟨g, k, none⟩ u) v rs vo ds :=
  ⟨by rw [World.cell?_setCell_other (h := by intro e; cases e; exact hg rfl), h.pc], by rw [World.frozen?_setCell, h.pf], ownsRow_setCell_other h.own (by exact h1) _, ownsRow_setCell_other h.ints (by exact h2) _⟩
theorem Fz.push {pg : Nat} {w w2 : World} {v v2 : Value} {rs rs2 : List (Int × Sv × Sv)} {vo : Value} {ds : List Int} (h : Fz pg w v rs vo ds) (gr : w.grownBy w2 v.ownBlock) (own : OwnE hkE (pg + 1) w2 v2 rs2) :
    w2.cell? ⟨pg, 0, none⟩ = some v ∧ w2.frozen? ⟨pg, 0, none⟩ = false ∧ Fz pg (w2.setCell ⟨pg, 0, none⟩ v2) v2 rs2 vo ds := by
  have hv : v.ownBlock ≠ some pg := fun e => by have := own_block h.own _ e; omega
  have c2 := gr.cell h.pc (Ne.symm hv)
  have f2 : w2.frozen? ⟨pg, 0, none⟩ = false := by rw [gr.frozen_far ⟨pg, 0, none⟩ (by have := h.lt; exact this) (Ne.symm hv)]; exact h.pf
  refine ⟨c2, f2, World.cell?_setCell_same _ _ _ c2, by rw [World.frozen?_setCell]; exact f2, ownsRow_setCell_below own (by exact Nat.lt_succ_self _) _, ownsRow_setCell_below ?_ (by exact Nat.lt_succ_self _) _⟩
  refine World.ownsRow.kept h.ints gr ?_
  cases e : vo.ownBlock with
  | none => exact .inl rfl
  | some b => exact .inr (fun e' => own_apart (e := intE) (e' := hkE) (by decide) h.ints h.own b e e'.symm)
theorem Fz.more {pg : Nat} {w w2 : World} {v : Value} {rs : List (Int × Sv × Sv)} {vo vo2 : Value} {ds ds2 : List Int} (h : Fz pg w v rs vo ds) (gr : w.grownBy w2 vo.ownBlock) (own : OwnE intE (pg + 1) w2 vo2 ds2) : Fz pg w2 v rs vo2 ds2 := by
  have hv : vo.ownBlock ≠ some pg := fun e => by have := own_block h.ints _ e; omega
  refine ⟨gr.cell h.pc (Ne.symm hv), by rw [gr.frozen_far ⟨pg, 0, none⟩ (by have := h.lt; exact this) (Ne.symm hv)]; exact h.pf, World.ownsRow.kept h.own gr ?_, own⟩
  cases e : v.ownBlock with
  | none => exact .inl rfl
  | some b => exact .inr (fun e' => own_apart (e := hkE) (e' := intE) (by decide) h.own h.ints b e e'.symm)
theorem Fz.start {pg : Nat} {w : World} (hc : w.cell? ⟨pg, 0, none⟩ = some (.slice none 0 0)) (hf : w.frozen? ⟨pg, 0, none⟩ = false) : Fz pg w (.slice none 0 0) [] (.slice none 0 0) [] := ⟨hc, hf, ownE_nil _ _ _, ownE_nil _ _ _⟩
theorem Hu.move {w : World} {g : Nat} {z : Int} {o n : Value} (h : Hu w g z o n) (y : Int) : Hu (w.setCell ⟨g, 0, none⟩ (.int .i64 y)) g y o n :=
  ⟨World.cell?_setCell_same _ _ _ h.c0, by rw [World.cell?_setCell_other (h := by simp), h.c1], by rw [World.cell?_setCell_other (h := by simp), h.c2], by rw [World.size_setCell]; exact h.lt⟩
theorem Hu.far {w : World} {g g' k : Nat} {z : Int} {o n : Value} (h : Hu w g z o n) (hg : g' ≠ g) (u : Value) : Hu (w.setCell ⟨g', k, none⟩ u) g z o n :=
  ⟨by rw [World.cell?_setCell_other (h := by intro e; cases e; exact hg rfl), h.c0], by rw [World.cell?_setCell_other (h := by intro e; cases e; exact hg rfl), h.c1], by rw [World.cell?_setCell_other (h := by intro e; cases e; exact hg rfl), h.c2], by rw [World.size_setCell]; exact h.lt⟩

/-- Fuzzy returns -/
def FzPost (t : List ByteArray) (hs : List Tp.H) (reach : Int) (w : World) (e : Ending) (w' : World) : Prop :=
  ∃ vt vo, e = .returned (.tuple #[vt, vo, .agg #[.int .i64 (Tp.zC t hs reach), .int .i64 (Tp.zI t hs reach)]]) ∧ OwnS w.heap.size w' vt (Tp.zT t hs reach) ∧ OwnE intE w.heap.size w' vo (Tp.zO t hs reach) ∧ Below w.heap.size w w'

set_option maxRecDepth 100000 in
set_option maxHeartbeats 8000000 in
theorem fuzzy_any (p pt : Option Addr) (hs : List Tp.H) (t : List ByteArray) (cap ct : Nat) (reach : Int) (w : World) (hp : Ptc w p hs) (hl : hs.length ≤ 2513169434845) (hq : Sts w pt t) (hc' : pt = none → ct = 0) (ht : t.length ≤ ct) :
    Calls Tryd.prog 6 #[.slice pt t.length ct, .agg #[.slice p hs.length cap], .int .i64 reach] w (FzPost t hs reach w) := by
  have HP := Lib.hid hp
  have HQ := Lib.hid hq
  have HC := Lib.hid hc'
  have HT := Lib.hid ht
  clear hp hq hc' ht
  have up0 : Below w.heap.size w ((w.alloc (.cells #[.slice p hs.length cap] 25 (0, 0))).alloc (.cells #[.int .i64 0, .int .i64 0] 27 (0, 0))) := up_alloc (up_alloc (Below.refl _ _) _) _
  have O0 : Hid (One ((w.alloc (.cells #[.slice p hs.length cap] 25 (0, 0))).alloc (.cells #[.int .i64 0, .int .i64 0] 27 (0, 0))) w.heap.size (.slice p hs.length cap)) := Lib.hid ((One.new w (.slice p hs.length cap) 25 w.heap.size rfl).alloc _)
  have F0 : Hid (Flt ((w.alloc (.cells #[.slice p hs.length cap] 25 (0, 0))).alloc (.cells #[.int .i64 0, .int .i64 0] 27 (0, 0))) (w.heap.size + 1) 0 0) := by
    have := Flt.new (w.alloc (.cells #[.slice p hs.length cap] 25 (0, 0))) 0 0 27
    rwa [World.size_alloc] at this
  go_enter Tryd.func6, Tryd.ntmps6
  go_wp2_with fail
  refine (tpValidate_any p hs _ cap _ rfl (HP.out.mono up0) hl).mono ?_
  rintro e w1 ⟨rfl, hb1⟩
  have u1 := up_call up0 hb1
  have O1 := Lib.hid (O0.out.up hb1)
  have F1 := Lib.hid (F0.out.up hb1)
  have hz1 := u1.size
  clear up0 hb1 O0 F0
  by_cases hp0 : Tp.pC hs = 0
  · have VP := Lib.hid (Tp.pC_zero.1 hp0)
    have HP0 := Lib.hid hp0
    rw [hp0, Tp.pI_zero hp0]
    clear hp0
    have v1 := up_alloc u1 (.cells #[.int .i64 0, .int .i64 0] 27 (0, 0))
    have O2 := Lib.hid (O1.out.alloc (.cells #[.int .i64 0, .int .i64 0] 27 (0, 0)))
    have F2 := Lib.hid (F1.out.alloc (.cells #[.int .i64 0, .int .i64 0] 27 (0, 0)))
    go_wp2_with fail
    refine (validate_any pt t _ _ _ rfl (HQ.out.mono v1)).mono ?_
    rintro e w2 ⟨rfl, hb2⟩
    have u2 := up_call v1 hb2
    have O3 := Lib.hid (O2.out.up hb2)
    have F3 := Lib.hid (F2.out.up hb2)
    clear v1 hb2 O1 F1 O2 F2 u1 hz1
    have hz2 := u2.size
    by_cases ht0 : Lin.vC t = 0
    · have HT0 := Lib.hid ht0
      have lt := (Lin.vC_zero ht0).1
      have e3 := Lin.vI_zero ht0
      rw [ht0, e3]
      clear ht0 e3
      by_cases hr : reach < 0 ∨ 120 < reach
      · have E := Lib.hid (Tp.z_reach HP0.out HT0.out hr)
        have F4 := F3.out.alloc (.cells #[.int .i64 0, .int .i64 0] 27 (0, 0))
        obtain ⟨d0, d1, -, -, -⟩ := F4.set2 3 (-3)
        obtain ⟨a0, a1, a2, a3, a4⟩ := F4
        by_cases h0 : reach < 0
        · have g0 : decide (reach < 0) = true := decide_eq_true h0
          clear hr h0
          go_wp2_with fail
          refine bodyPost_ret (v := .tuple #[.slice none 0 0, .slice none 0 0, .agg #[.int .i64 3, .int .i64 (-3)]]) (by simp [results, Tryd.results6, go_sem, d0, d1]) rfl ⟨_, _, by rw [E.out.1, E.out.2.1], by rw [E.out.2.2.1]; exact World.ownsRow_nil _ _ _ _, by rw [E.out.2.2.2]; exact ownE_nil _ _ _, ?_⟩
          (repeat' (first | (with_reducible exact Below.refl _ _) | (with_reducible assumption) | (with_reducible refine below_drewN ?_ _) | (with_reducible refine Below.setCell ?_ ?_ _) | (with_reducible refine Below.alloc ?_ ?_ _) | (with_reducible refine Below.drew ?_) | go_size))
        · have g0 : decide (reach < 0) = false := decide_eq_false h0
          have g1 : decide (120 < reach) = true := decide_eq_true (by omega)
          clear hr h0
          go_wp2_with fail
          refine bodyPost_ret (v := .tuple #[.slice none 0 0, .slice none 0 0, .agg #[.int .i64 3, .int .i64 (-3)]]) (by simp [results, Tryd.results6, go_sem, d0, d1]) rfl ⟨_, _, by rw [E.out.1, E.out.2.1], by rw [E.out.2.2.1]; exact World.ownsRow_nil _ _ _ _, by rw [E.out.2.2.2]; exact ownE_nil _ _ _, ?_⟩
          (repeat' (first | (with_reducible exact Below.refl _ _) | (with_reducible assumption) | (with_reducible refine below_drewN ?_ _) | (with_reducible refine Below.setCell ?_ ?_ _) | (with_reducible refine Below.alloc ?_ ?_ _) | (with_reducible refine Below.drew ?_) | go_size))
      · obtain ⟨R, rfl⟩ : ∃ R : Nat, reach = R := ⟨reach.toNat, by omega⟩
        have hR : R ≤ 120 := by omega
        have HR := Lib.hid hr
        clear hr
        have gr1 : decide ((R : Int) < 0) = false := decide_eq_false (by omega)
        have gr2 : decide ((120 : Int) < (R : Int)) = false := decide_eq_false (by omega)
        have u3 := Lib.hid (up_alloc (up_alloc u2 (.cells #[.int .i64 0, .int .i64 0] 27 (0, 0))) (.cells #[.slice none 0 0] 25 (0, 0)))
        have pgz : (w2.alloc (.cells #[.int .i64 0, .int .i64 0] 27 (0, 0))).heap.size = w2.heap.size + 1 := by simp
        have Z0 : Hid (Fz (w2.heap.size + 1) ((w2.alloc (.cells #[.int .i64 0, .int .i64 0] 27 (0, 0))).alloc (.cells #[.slice none 0 0] 25 (0, 0))) (.slice none 0 0) [] (.slice none 0 0) []) := Lib.hid (by
          have := One.new (w2.alloc (.cells #[.int .i64 0, .int .i64 0] 27 (0, 0))) (.slice none 0 0) 25 (w2.heap.size + 1) (by simp)
          exact Fz.start this.c this.f)
        have O4 := Lib.hid ((O3.out.alloc (.cells #[.int .i64 0, .int .i64 0] 27 (0, 0))).alloc (.cells #[.slice none 0 0] 25 (0, 0)))
        have F4 := Lib.hid ((F3.out.alloc (.cells #[.int .i64 0, .int .i64 0] 27 (0, 0))).alloc (.cells #[.slice none 0 0] 25 (0, 0)))
        have oc := O4.out.c
        have hf3 := F3.out.lt
        clear u2 O3 F3
        go_wp2_with fail
        obtain ⟨W, hW⟩ : ∃ W, W = (w2.alloc (.cells #[.int .i64 0, .int .i64 0] 27 (0, 0))).alloc (.cells #[.slice none 0 0] 25 (0, 0)) := ⟨_, rfl⟩
        have hWz : W.heap.size = w2.heap.size + 2 := by rw [hW]; simp
        rw [← hW] at u3 Z0 O4 F4 oc ⊢
        clear hW pgz
        obtain ⟨pg, hpg⟩ : ∃ pg, pg = w2.heap.size + 1 := ⟨_, rfl⟩
        rw [← hpg] at Z0 ⊢
        have pg1 : w2.heap.size < pg := by omega
        have pg2 : pg < W.heap.size := by omega
        clear hpg hWz
        go_wp2_with fail
        go_loopw [12, 13, 44] (fun vo lw i wr => ∃ (k : Nat) (lo : Int) (ds : List Int) (vq : Value), k ≤ hs.length ∧ i = .int .i64 k ∧ lw = .int .i64 lo ∧ vq = vo ∧ Hid (0 ≤ lo ∧ lo ≤ 500 ∧ ds.length = k ∧ Tp.oz t R (hs.drop k) lo k ds = Tp.oz t R hs 0 0 []) ∧ (∃ v rs, Hid (Fz pg wr v rs vq ds) ∧ Hid (Rows w (Tp.mvs hs ds) rs)) ∧ Hid (Below pg W wr)) (fun _ _ i _ => hs.length - (intOf i).toNat)
        case atStart => exact ⟨0, 0, [], _, Nat.zero_le _, rfl, rfl, rfl, Lib.hid ⟨by omega, by omega, rfl, rfl⟩, ⟨_, _, Z0, Lib.hid (by have := Rows.nil w; unfold Tp.mvs; simpa using this)⟩, Lib.hid (Below.refl _ _)⟩
        case round =>
          clear Z0
          obtain ⟨k, lo, ds, vo, hk, rfl, rfl, rfl, hA, ⟨v, rs, hZ, hRw⟩, hB⟩ := hrel
          have b0 : (0 : Int) ≤ (k : Int) := by omega
          have uw : Hid (Below w.heap.size w wr) := Lib.hid (u3.out.trans (hB.out.mono (by omega)))
          have F5 := Lib.hid (F4.out.mono hB.out (by omega))
          by_cases hlt : k < hs.length
          · have g1 : decide (k < hs.length) = true := by simpa using hlt
            have b1 : (k : Int) < (hs.length : Int) := by omega
            obtain ⟨b, off, rfl, hbb0, ⟨o1, o2, o3⟩, ⟨n1, n2, n3⟩, c0, c1, c2, r1, r2⟩ := HP.out.cell hlt
            replace c0 := (uw.out.cell (p := ⟨b, off + k * 3, none⟩) hbb0).trans c0
            replace c1 := (uw.out.cell (p := ⟨b, off + k * 3 + 1, none⟩) hbb0).trans c1
            replace c2 := (uw.out.cell (p := ⟨b, off + k * 3 + 2, none⟩) hbb0).trans c2
            obtain ⟨⟨pr, hok⟩, -⟩ := Tp.ch_at VP.out.ch k hlt
            have z0 := hok.lo
            have z1 := hok.hi
            have z2 := (Lin.vC_zero hok.old).1
            have z3 := (Lin.vC_zero hok.new).1
            obtain ⟨l0, l1, hdl, hoz⟩ := hA.out
            have SF := Lib.hid (fun e => (Tp.oz_stop (i := k) (acc := ds) (reach := R) (low := lo) (t := t) hlt e).symm.trans hoz)
            have SN := Lib.hid (fun d e => Tp.oz_next (d := d) hlt hdl lt l0 e hoz)
            clear hoz hok
            obtain ⟨⟨z, ol, nl⟩, hx⟩ : ∃ x, x = hs[k] := ⟨_, rfl⟩
            rw [← hx] at c0 r1 r2 z0 z1 z2 z3 SF SN
            have RO := Lib.hid r1
            have RN := Lib.hid r2
            obtain ⟨q1, e1, -, -⟩ := r1
            obtain ⟨q2, e2, -, -⟩ := r2
            dsimp only at e1 e2 q1 q2 c0 z0 z1 z2 z3 RO RN
            subst e1 e2
            simp only [sv] at c1 c2
            have hb5 := up_alloc (Below.refl wr.heap.size wr) (.cells #[.int .i64 z, .slice o1 ol.length o3, .slice n1 nl.length n3] 46 (0, 0))
            have HB5 := Lib.hid hb5
            have U5 := Lib.hid (Hu.new wr z (.slice o1 ol.length o3) (.slice n1 nl.length n3) 46)
            have F6 := Lib.hid (F5.out.up hb5)
            have Z5 := Lib.hid (hZ.out.up hb5)
            have uw5 := Lib.hid (up_alloc uw.out (.cells #[.int .i64 z, .slice o1 ol.length o3, .slice n1 nl.length n3] 46 (0, 0)))
            have FR5 : Hid ((wr.alloc (.cells #[.int .i64 z, .slice o1 ol.length o3, .slice n1 nl.length n3] 46 (0, 0))).frozen? ⟨wr.heap.size, 0, none⟩ = false) := Lib.hid (by rw [World.frozen?_alloc_mark]; rfl)
            have CO := Lib.hid (offsetOf_any pt o1 n1 t ⟨z, ol, nl⟩ ct o3 nl.length n3 lo R (wr.alloc (.cells #[.int .i64 z, .slice o1 ol.length o3, .slice n1 nl.length n3] 46 (0, 0))) (HQ.out.mono uw5.out) ((q1.mono uw.out).mono hb5) HT.out z0 (by dsimp only; omega) (by dsimp only; omega) l0 (by omega) (by omega))
            have BB := Lib.hid (hB.out.trans (hb5.mono (by have := hB.out.size; omega)))
            have nHP : wr.heap.size ≠ pg := by have := hZ.out.lt; omega
            clear q1 q2 hx hb5
            cases e : Tp.off t R lo ⟨z, ol, nl⟩ with
            | none =>
              rw [e] at CO
              simp only [offV] at CO
              have E := Lib.hid (Tp.z_conf HP0.out HT0.out HR.out (by rw [Int.toNat_natCast, ← SF.out e]))
              clear e
              go_wp2_with fail
              refine CO.out.mono ?_
              rintro e wF ⟨rfl, hbF⟩
              obtain ⟨d0, d1, -, -, -⟩ := (F6.out.up hbF).set2 19 (k : Int)
              obtain ⟨a0, a1, a2, a3, a4⟩ := F6.out.up hbF
              have uF := up_call uw5.out hbF
              go_wp2_with fail
              refine bodyPost_ret (v := .tuple #[.slice none 0 0, .slice none 0 0, .agg #[.int .i64 19, .int .i64 (k : Int)]]) (by simp [results, Tryd.results6, go_sem, d0, d1]) rfl ⟨_, _, by rw [E.out.1, E.out.2.1], by rw [E.out.2.2.1]; exact World.ownsRow_nil _ _ _ _, by rw [E.out.2.2.2]; exact ownE_nil _ _ _, ?_⟩
              exact (uF.setCell (by first | omega | (dsimp only; omega)) _).setCell (by first | omega | (dsimp only; omega)) _
            | some d =>
              rw [e] at CO
              simp only [offV] at CO
              obtain ⟨SN1, SN2, SN3, SN4, SN5, SN6⟩ := SN.out d e
              dsimp only at SN1 SN2 SN4 SN5
              have S1 := Lib.hid SN1
              have S2 := Lib.hid SN2
              have S3 := Lib.hid SN3
              clear e SN1 SN2 SN3
              have wd : IntKind.i64.wrap (z + d) = z + d := IntWalk.i64_in _ (by omega)
              have we : IntKind.i64.wrap (z + d + (ol.length : Int) + 1) = z + d + (ol.length : Int) + 1 := IntWalk.i64_in _ (by omega)
              go_wp2_with fail
              refine CO.out.mono ?_
              rintro e w6 ⟨rfl, hb6⟩
              have U6 := U5.out.up hb6
              have xf : w6.frozen? ⟨wr.heap.size, 0, none⟩ = false := by rw [hb6.frozen (p := ⟨wr.heap.size, 0, none⟩) U5.out.lt]; exact FR5.out
              have nv : v.ownBlock ≠ some wr.heap.size := fun e => by have := own_block hZ.out.own _ e; omega
              have nvo : vo.ownBlock ≠ some wr.heap.size := fun e => by have := own_block hZ.out.ints _ e; omega
              have Z6 := Lib.hid ((Z5.out.up hb6).set (k := 0) nHP nv nvo (.int .i64 (z + d)))
              have U7 := Lib.hid (U6.move (z + d))
              have BB6 := Lib.hid ((BB.out.trans (hb6.mono (by have := BB.out.size; omega))).setCell (p := ⟨wr.heap.size, 0, none⟩) (by have := hZ.out.lt; dsimp only; omega) (.int .i64 (z + d)))
              have NV := Lib.hid (And.intro nv nvo)
              obtain ⟨x0, x1, x2, x3⟩ := U6
              have y0 := U7.out.c0
              have y1 := U7.out.c1
              have y2 := U7.out.c2
              have yp := Z6.out.pc
              have lrs : Hid (rs.length ≤ 130 ∧ ds.length ≤ 130) := Lib.hid (by have := hRw.out.len; rw [Tp.mvs_len _ _ (by omega)] at this; have := VP.out.len; omega)
              clear nv nvo hb6
              go_wp2_with (at_builtin; refine Halt.out ?_)
              clear x0 x1 x2 x3 y0 y1 y2 yp xf c0 c1 c2
              obtain ⟨W6, hW6⟩ : ∃ W6, W6 = w6.setCell ⟨wr.heap.size, 0, none⟩ (.int .i64 (z + d)) := ⟨_, rfl⟩
              have HZ6 : Hid (W6.heap.size = w6.heap.size) := Lib.hid (by rw [hW6, World.size_setCell])
              rw [← hW6] at Z6 U7 BB6 ⊢
              clear hW6
              refine ⟨?_⟩
              obtain ⟨lr1, lr2⟩ := lrs.out
              have bz6 := BB6.out.size
              refine wp_appE_at hkE rfl (.tmp 67) (.tmp 69) rfl (pg + 1) v rs (z + d, (o1, ol.length, o3), (n1, nl.length, n3)) _ 1 rfl (Z6.out.own.alloc _) rfl (hunk_one' W6 w6.heap.size HZ6.out (z + d) (o1, ol.length, o3) (n1, nl.length, n3) _) (by simp [hkE]; omega) (by omega) (by rw [World.size_alloc]; omega) ?_
              intro v2 w7 own2 gr2 hat2
              obtain ⟨g2, cp2, rfl⟩ := own_succ (m := rs.length) own2 rfl
              have G2 : W6.grownBy w7 v.ownBlock := grow_trans (World.grownBy_alloc W6 _ none) gr2
              obtain ⟨c7, f7, z7⟩ := Z6.out.push G2 own2
              have Z7 := Lib.hid z7
              have U8 := Lib.hid ((U7.out.grown G2 NV.out.1).far (k := 0) (g' := pg) (Ne.symm nHP) (.slice (some ⟨g2, 0, none⟩) (rs.length + 1) cp2))
              have BB7 := Lib.hid ((BB6.out.grown G2 (by omega) (fun b hb => by have := own_block Z6.out.own _ hb; omega)).setCell (p := ⟨pg, 0, none⟩) (by exact Nat.le_refl _) (.slice (some ⟨g2, 0, none⟩) (rs.length + 1) cp2))
              clear own2 gr2 hat2 G2 z7 Z6 U7 BB6 bz6 HZ6
              go_wp2_with (at_builtin; refine Halt.out ?_)
              clear c7 f7
              obtain ⟨W7, hW7⟩ : ∃ W7, W7 = w7.setCell ⟨pg, 0, none⟩ (.slice (some ⟨g2, 0, none⟩) (rs.length + 1) cp2) := ⟨_, rfl⟩
              have HZ7 : Hid (W7.heap.size = w7.heap.size) := Lib.hid (by rw [hW7, World.size_setCell])
              rw [← hW7] at Z7 U8 BB7 ⊢
              clear hW7
              refine ⟨?_⟩
              have bz7 := BB7.out.size
              refine wp_appE_at intE rfl (.tmp 72) (.tmp 74) rfl (pg + 1) vo ds d _ 1 rfl (Z7.out.ints.alloc _) rfl (int_one W7 w7.heap.size HZ7.out d _) (by simp [intE]; omega) (by omega) (by rw [World.size_alloc]; omega) ?_
              intro v3 w8 own3 gr3 hat3
              have G3 : W7.grownBy w8 vo.ownBlock := grow_trans (World.grownBy_alloc W7 _ none) gr3
              have Z8 := Lib.hid (Z7.out.more G3 own3)
              have U9 := Lib.hid (U8.out.grown G3 NV.out.2)
              have BB8 := Lib.hid (BB7.out.grown G3 (by omega) (fun b hb => by have := own_block Z7.out.ints _ hb; omega))
              clear own3 gr3 hat3 G3 Z7 U8 BB7 bz7 HZ7
              obtain ⟨x0, x1, x2, x3⟩ := U9.out
              go_wp2_with fail
              refine (uend_any (z + d) o1 n1 ol.length o3 nl.length n3 _ (by omega) (by omega) (by omega)).mono ?_
              rintro e w9 ⟨rfl, hb9⟩
              have Z9 := Lib.hid (Z8.out.up hb9)
              have BB9 := Lib.hid (BB8.out.trans (hb9.mono (by have := BB8.out.size; omega)))
              have EA : Hid (0 ≤ z + d + (ol.length : Int) + 1 ∧ z + d + (ol.length : Int) + 1 ≤ 500 ∧ (ds ++ [d]).length = k + 1 ∧ Tp.oz t R (hs.drop (k + 1)) (z + d + (ol.length : Int) + 1) (k + 1) (ds ++ [d]) = Tp.oz t R hs 0 0 []) := Lib.hid (by
                refine ⟨by omega, by omega, S3.out, ?_⟩
                have := S1.out
                rwa [show Tp.en (⟨z, ol, nl⟩ : Tp.H) + d + 1 = z + d + (ol.length : Int) + 1 by unfold Tp.en; dsimp only; omega] at this)
              have RW2 : Hid (Rows w (Tp.mvs hs (ds ++ [d])) (rs ++ [(z + d, (o1, ol.length, o3), (n1, nl.length, n3))])) := Lib.hid (by rw [S2.out]; exact hRw.out.snoc (x := Tp.mv ⟨z, ol, nl⟩ d) RO.out RN.out)
              clear hb9 x0 x1 x2 x3
              go_wp2_with fail
              go_roundw
              case rel => exact ⟨k + 1, _, ds ++ [d], _, hlt, by go_num, rfl, rfl, EA, ⟨_, _, Z9, RW2⟩, BB9⟩
              case measure => first | (simp [intOf]; done) | (simp [intOf]; omega)
          · have g1 : decide (k < hs.length) = false := by simpa using hlt
            obtain ⟨l0, l1, hdl, hoz⟩ := hA.out
            have h4 : Tp.oz t R hs 0 0 [] = (none, ds) := by rw [← hoz, List.drop_eq_nil_of_le (by omega)]; rfl
            have E := Lib.hid (Tp.z_app HP0.out HT0.out HR.out (by rw [Int.toNat_natCast]; exact h4))
            obtain ⟨pv, cv, rfl, hrow, -, -, -⟩ := row_of_own hZ.out.own
            obtain ⟨po, co, rfl, -, -, -, -⟩ := row_of_own hZ.out.ints
            have PT := Lib.hid ((hRw.out.mono uw.out).ptc hrow)
            have LR := Lib.hid hRw.out.len
            have lrs : (Tp.mvs hs ds).length ≤ 2513169434845 := by rw [Tp.mvs_len _ _ (by omega)]; have := VP.out.len; omega
            have pc := hZ.out.pc
            clear hoz h4 hrow hdl l0 l1
            go_wp2_with fail
            refine (tpApply_any pv pt (Tp.mvs hs ds) t rs.length cv t.length ct _ LR.out rfl PT.out lrs (HQ.out.mono uw.out) HC.out HT.out).mono ?_
            rintro e w3 ⟨vs, rfl, own3, hb3⟩
            obtain ⟨ps, cs, rfl, -, -⟩ := ownS_shape own3
            have OW := Lib.hid own3
            have OI := Lib.hid (hZ.out.ints.up hb3)
            have u5 := Lib.hid (up_call uw.out hb3)
            have F6 := Lib.hid (F5.out.up hb3)
            have hzr := uw.out.size
            have hzp := hZ.out.lt
            have hz3 := hb3.size
            clear own3 hb3 pc
            by_cases ha : Tp.aC (Tp.mvs hs ds) t = 0
            · have hai := Tp.aI_zero ha
              rw [ha, hai]
              have F7 := F6.out.alloc (.cells #[.int .i64 0, .int .i64 0] 27 (0, 0))
              obtain ⟨d0, d1, -, -, -⟩ := F7.set2 0 0
              obtain ⟨a0, a1, a2, a3, a4⟩ := F7
              have EZ : Hid (Tp.zO t hs R = ds) := Lib.hid (by rw [E.out.2.2.2, if_pos ha])
              have EC : Hid (Tp.zC t hs R = 0 ∧ Tp.zI t hs R = 0) := Lib.hid ⟨by rw [E.out.1, ha], by rw [E.out.2.1, hai]⟩
              clear ha hai
              go_wp2_with fail
              refine bodyPost_ret (v := .tuple #[.slice ps (Tp.aT (Tp.mvs hs ds) t).length cs, .slice po ds.length co, .agg #[.int .i64 0, .int .i64 0]]) (by simp [results, Tryd.results6, go_sem, d0, d1]) rfl ⟨_, _, by rw [EC.out.1, EC.out.2], ?_, ?_, ?_⟩
              · rw [E.out.2.2.1]
                exact ownS_le (ownsRow_setCell_below (ownsRow_setCell_below (ownS_up OW.out (up_alloc (Below.refl _ _) _)) (a := ⟨w.heap.size + 1, 0, none⟩) (by dsimp only; omega) _) (a := ⟨w.heap.size + 1, 1, none⟩) (by dsimp only; omega) _) hzr
              · rw [EZ.out]
                exact OwnE.le (ownsRow_setCell_below (ownsRow_setCell_below (OI.out.alloc _) (a := ⟨w.heap.size + 1, 0, none⟩) (by dsimp only; omega) _) (a := ⟨w.heap.size + 1, 1, none⟩) (by dsimp only; omega) _) (by omega)
              · exact ((up_alloc u5.out _).setCell (by first | omega | (dsimp only; omega)) _).setCell (by first | omega | (dsimp only; omega)) _
            · have hne : (Tp.aC (Tp.mvs hs ds) t != 0) = true := by simpa using ha
              have EZ : Hid (Tp.zO t hs R = [] ∧ Tp.zT t hs R = []) := Lib.hid ⟨by rw [E.out.2.2.2, if_neg ha], by rw [E.out.2.2.1]; unfold Tp.aT; rw [if_neg ha]⟩
              obtain ⟨d0, d1, -, -, -⟩ := (F6.out.set2 (Tp.aC (Tp.mvs hs ds) t) (Tp.aI (Tp.mvs hs ds) t)).alloc (.cells #[.int .i64 (Tp.aC (Tp.mvs hs ds) t), .int .i64 (Tp.aI (Tp.mvs hs ds) t)] 27 (0, 0))
              obtain ⟨a0, a1, a2, a3, a4⟩ := F6.out
              have uu := u5.out
              go_wp2_with fail
              go_region
              go_wp2_with fail
              refine bodyPost_ret (v := .tuple #[.slice none 0 0, .slice none 0 0, .agg #[.int .i64 (Tp.aC (Tp.mvs hs ds) t), .int .i64 (Tp.aI (Tp.mvs hs ds) t)]]) (by simp [results, Tryd.results6, go_sem, d0, d1]) rfl ⟨_, _, by rw [E.out.1, E.out.2.1], by rw [EZ.out.2]; exact World.ownsRow_nil _ _ _ _, by rw [EZ.out.1]; exact ownE_nil _ _ _, ?_⟩
              (repeat' (first | (with_reducible exact Below.refl _ _) | (with_reducible assumption) | (with_reducible refine below_drewN ?_ _) | (with_reducible refine Below.setCell ?_ ?_ _) | (with_reducible refine Below.alloc ?_ ?_ _) | (with_reducible refine Below.drew ?_) | go_size))
    · have E := Lib.hid (Tp.z_text (reach := reach) HP0.out ht0)
      have hne := ht0
      obtain ⟨d0, d1, -, -, -⟩ := (F3.out.set2 (Lin.vC t) (-2)).alloc (.cells #[.int .i64 (Lin.vC t), .int .i64 (Lin.vI t)] 27 (0, 0))
      obtain ⟨a0, a1, a2, a3, a4⟩ := F3.out
      go_wp2_with fail
      go_region
      go_wp2_with fail
      refine bodyPost_ret (v := .tuple #[.slice none 0 0, .slice none 0 0, .agg #[.int .i64 (Lin.vC t), .int .i64 (-2)]]) (by simp [results, Tryd.results6, go_sem, d0, d1]) rfl ⟨_, _, by rw [E.out.1, E.out.2.1], by rw [E.out.2.2.1]; exact World.ownsRow_nil _ _ _ _, by rw [E.out.2.2.2]; exact ownE_nil _ _ _, ?_⟩
      (repeat' (first | (with_reducible exact Below.refl _ _) | (with_reducible assumption) | (with_reducible refine below_drewN ?_ _) | (with_reducible refine Below.setCell ?_ ?_ _) | (with_reducible refine Below.alloc ?_ ?_ _) | (with_reducible refine Below.drew ?_) | go_size))
  · have E := Lib.hid (Tp.z_patch (t := t) (reach := reach) hp0)
    obtain ⟨d0, d1, -, -, -⟩ := (F1.out.set2 (Tp.pC hs) (Tp.pI hs)).alloc (.cells #[.int .i64 (Tp.pC hs), .int .i64 (Tp.pI hs)] 27 (0, 0))
    obtain ⟨a0, a1, a2, a3, a4⟩ := F1.out
    have hne := hp0
    go_wp2_with fail
    go_region
    go_wp2_with fail
    refine bodyPost_ret (v := .tuple #[.slice none 0 0, .slice none 0 0, .agg #[.int .i64 (Tp.pC hs), .int .i64 (Tp.pI hs)]]) (by simp [results, Tryd.results6, go_sem, d0, d1]) rfl ⟨_, _, by rw [E.out.1, E.out.2.1], by rw [E.out.2.2.1]; exact World.ownsRow_nil _ _ _ _, by rw [E.out.2.2.2]; exact ownE_nil _ _ _, ?_⟩
    (repeat' (first | (with_reducible exact Below.refl _ _) | (with_reducible assumption) | (with_reducible refine below_drewN ?_ _) | (with_reducible refine Below.setCell ?_ ?_ _) | (with_reducible refine Below.alloc ?_ ?_ _) | (with_reducible refine Below.drew ?_) | go_size))
end Go.Proofs.YtcheggdfcdokiaaDoor
