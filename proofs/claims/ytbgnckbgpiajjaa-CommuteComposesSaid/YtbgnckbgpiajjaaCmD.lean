/-
  The program's Commute and Rebase, walked.
-/
import Derived.Test.YtbgnckbgpiajjaaCmC
import Derived.Test.YtbgnckbgpiajjaaTpG
import Derived.Test.YtbgnckbgpiajjaaTqG
namespace Go.Proofs.Ytbgnckbgpiajjaa
open Go.RowKit
set_option maxRecDepth 4000

theorem tooLarge_any (w : World) : Calls Try.prog 66 #[] w (BPost (.agg #[.int .i64 10, .int .i64 (-1)]) w) := by
  have F0 := Flt.new w 0 0 25
  obtain ⟨a0, a1, a2, a3, a4⟩ := F0
  go_enter Try.func66, Try.ntmps66
  go_wp2_with fail
  refine bodyPost_ret (v := .agg #[.int .i64 10, .int .i64 (-1)]) (by simp [results, Try.results66, go_sem]) rfl ⟨rfl, ?_⟩
  (repeat' (first | (with_reducible exact Below.refl _ _) | (with_reducible assumption) | (with_reducible refine below_drewN ?_ _) | (with_reducible refine Below.setCell ?_ ?_ _) | (with_reducible refine Below.alloc ?_ ?_ _) | (with_reducible refine Below.drew ?_) | go_size))

set_option maxHeartbeats 1000000 in
theorem valid_any (p : Option Addr) (hs : List Tp.H) (n cap : Nat) (w : World) (hn : n = hs.length) (hp : Ptc w p hs) (hl : hs.length ≤ 1000) :
    Calls Try.prog 65 #[.agg #[.slice p n cap]] w (BPost (.bool (decide (Tp.pC hs = 0))) w) := by
  subst hn
  have B0 := Lib.hid (up_alloc (Below.refl w.heap.size w) (.cells #[.slice p hs.length cap] 41 (0, 0)))
  have oc := (One.new w (.slice p hs.length cap) 41 w.heap.size rfl).c
  have HP := Lib.hid (hp.mono B0.out)
  clear hp
  go_enter Try.func65, Try.ntmps65
  go_wp2_with fail
  refine (tpValidate_any p hs _ cap _ rfl HP.out (by omega)).mono ?_
  rintro e w1 ⟨rfl, hb1⟩
  have B1 := Lib.hid (up_call B0.out hb1)
  clear hb1
  by_cases h : Tp.pC hs = 0
  · have E : Hid (decide (Tp.pC hs = 0) = true) := Lib.hid (by simpa using h)
    rw [h, Tp.pI_zero h]
    clear h
    go_wp2_with fail
    go_ret
    exact ⟨by first | rfl | (rw [E.out]; rfl) | (simp; done), B1.out⟩
  · have E : Hid (decide (Tp.pC hs = 0) = false) := Lib.hid (by simpa using h)
    have h' := h
    go_wp2_with fail
    go_ret
    exact ⟨by rw [E.out]; rfl, B1.out⟩

set_option maxRecDepth 100000 in
set_option maxHeartbeats 2000000 in
theorem cmValidate_any (p q : Option Addr) (hs ks : List Tp.H) (n cap m cap' : Nat) (w : World) (hn : n = hs.length) (hm : m = ks.length) (hp : Ptc w p hs) (hq : Ptc w q ks) (hl : hs.length ≤ 2513169434845) (hl' : ks.length ≤ 2513169434845) :
    Calls Try.prog 61 #[.agg #[.slice p n cap], .agg #[.slice q m cap']] w (BPost (.agg #[.int .i64 (Tp.prC hs ks), .int .i64 (Tp.prI hs ks)]) w) := by
  subst hn hm
  have HP := Lib.hid hp
  have HQ := Lib.hid hq
  clear hp hq
  have up0 : Below w.heap.size w (((w.alloc (.cells #[.slice p hs.length cap] 41 (0, 0))).alloc (.cells #[.slice q ks.length cap'] 41 (0, 0))).alloc (.cells #[.int .i64 0, .int .i64 0] 25 (0, 0))) := up_alloc (up_alloc (up_alloc (Below.refl _ _) _) _) _
  have O0 := (((One.new w (.slice p hs.length cap) 41 w.heap.size rfl).alloc (.cells #[.slice q ks.length cap'] 41 (0, 0))).alloc (.cells #[.int .i64 0, .int .i64 0] 25 (0, 0)))
  have R0 := Lib.hid ((One.new (w.alloc (.cells #[.slice p hs.length cap] 41 (0, 0))) (.slice q ks.length cap') 41 (w.heap.size + 1) (by simp)).alloc (.cells #[.int .i64 0, .int .i64 0] 25 (0, 0)))
  have F0 : Hid (Flt (((w.alloc (.cells #[.slice p hs.length cap] 41 (0, 0))).alloc (.cells #[.slice q ks.length cap'] 41 (0, 0))).alloc (.cells #[.int .i64 0, .int .i64 0] 25 (0, 0))) (w.heap.size + 1 + 1) 0 0) := by
    have := Flt.new ((w.alloc (.cells #[.slice p hs.length cap] 41 (0, 0))).alloc (.cells #[.slice q ks.length cap'] 41 (0, 0))) 0 0 25
    rw [World.size_alloc, World.size_alloc] at this
    exact this
  have oc := O0.c
  go_enter Try.func61, Try.ntmps61
  go_wp2_with fail
  refine (tpValidate_any p hs _ cap _ rfl (HP.out.mono up0) hl).mono ?_
  rintro e w1 ⟨rfl, hb1⟩
  have u1 := up_call up0 hb1
  have R1 := Lib.hid (R0.out.up hb1)
  have F1 := Lib.hid (F0.out.up hb1)
  have hzw := u1.size
  have hf1 := F1.out.lt
  clear up0 hb1 O0 R0 F0 oc
  by_cases h : Tp.pC hs = 0
  · have E1 : Hid (Tp.pC ks = 0 → Tp.prC hs ks = 0 ∧ Tp.prI hs ks = 0) := Lib.hid fun h' => ⟨(if_pos h).trans h', (if_pos h).trans (if_pos h')⟩
    have E2 : Hid (Tp.pC ks ≠ 0 → Tp.prC hs ks = Tp.pC ks ∧ Tp.prI hs ks = -2) := Lib.hid fun h' => ⟨if_pos h, (if_pos h).trans (if_neg h')⟩
    rw [h, Tp.pI_zero h]
    clear h
    have F2 := Lib.hid (F1.out.alloc (.cells #[.int .i64 0, .int .i64 0] 25 (0, 0)))
    have R2 := Lib.hid (R1.out.alloc (.cells #[.int .i64 0, .int .i64 0] 25 (0, 0)))
    have u2 := up_alloc u1 (.cells #[.int .i64 0, .int .i64 0] 25 (0, 0))
    have hz2 : (w1.alloc (.cells #[.int .i64 0, .int .i64 0] 25 (0, 0))).heap.size = w1.heap.size + 1 := by simp
    clear R1 F1
    have qc := R2.out.c
    go_wp2_with fail
    refine (tpValidate_any q ks _ cap' _ rfl (HQ.out.mono u2) hl').mono ?_
    rintro e w3 ⟨rfl, hb3⟩
    have u3 := up_call u2 hb3
    have F3 := Lib.hid (F2.out.up hb3)
    clear hb3 qc R2
    by_cases h' : Tp.pC ks = 0
    · have E := Lib.hid (E1.out h')
      rw [h', Tp.pI_zero h']
      clear h' E1 E2
      obtain ⟨d0, d1, -, -, -⟩ := (F3.out.set2 0 0).alloc (.cells #[.int .i64 0, .int .i64 0] 25 (0, 0))
      obtain ⟨a0, a1, a2, a3, a4⟩ := F3.out
      go_wp2_with fail
      refine bodyPost_ret (v := .agg #[.int .i64 0, .int .i64 0]) (by simp [results, Try.results61, go_sem, d0, d1]) rfl ⟨by rw [E.out.1, E.out.2], ?_⟩
      (repeat' (first | (with_reducible exact Below.refl _ _) | (with_reducible assumption) | (with_reducible refine below_drewN ?_ _) | (with_reducible refine Below.setCell ?_ ?_ _) | (with_reducible refine Below.alloc ?_ ?_ _) | (with_reducible refine Below.drew ?_) | go_size))
    · have E := Lib.hid (E2.out h')
      have hne := h'
      clear E1 E2
      obtain ⟨d0, d1, -, -, -⟩ := (F3.out.set2 (Tp.pC ks) (-2)).alloc (.cells #[.int .i64 (Tp.pC ks), .int .i64 (Tp.pI ks)] 25 (0, 0))
      obtain ⟨a0, a1, a2, a3, a4⟩ := F3.out
      go_wp2_with fail
      refine bodyPost_ret (v := .agg #[.int .i64 (Tp.pC ks), .int .i64 (-2)]) (by simp [results, Try.results61, go_sem, d0, d1]) rfl ⟨by rw [E.out.1, E.out.2], ?_⟩
      (repeat' (first | (with_reducible exact Below.refl _ _) | (with_reducible assumption) | (with_reducible refine below_drewN ?_ _) | (with_reducible refine Below.setCell ?_ ?_ _) | (with_reducible refine Below.alloc ?_ ?_ _) | (with_reducible refine Below.drew ?_) | go_size))
  · have E : Hid (Tp.prC hs ks = Tp.pC hs ∧ Tp.prI hs ks = Tp.pI hs) := Lib.hid ⟨if_neg h, if_neg h⟩
    have hne := h
    obtain ⟨d0, d1, -, -, -⟩ := (F1.out.set2 (Tp.pC hs) (Tp.pI hs)).alloc (.cells #[.int .i64 (Tp.pC hs), .int .i64 (Tp.pI hs)] 25 (0, 0))
    obtain ⟨a0, a1, a2, a3, a4⟩ := F1.out
    go_wp2_with fail
    refine bodyPost_ret (v := .agg #[.int .i64 (Tp.pC hs), .int .i64 (Tp.pI hs)]) (by simp [results, Try.results61, go_sem, d0, d1]) rfl ⟨by rw [E.out.1, E.out.2], ?_⟩
    (repeat' (first | (with_reducible exact Below.refl _ _) | (with_reducible assumption) | (with_reducible refine below_drewN ?_ _) | (with_reducible refine Below.setCell ?_ ?_ _) | (with_reducible refine Below.alloc ?_ ?_ _) | (with_reducible refine Below.drew ?_) | go_size))

namespace Tp
/-- what Rebase returns -/
def rOk (hs os : List H) : Prop := Vp hs ∧ Vp os ∧ tch hs (cg os) = false ∧ Vp (bh hs (cg os))
noncomputable def rB (hs os : List H) : Bool := @decide (rOk hs os) (Classical.propDecidable _)
noncomputable def rC (hs os : List H) : Int := if prC hs os ≠ 0 then prC hs os else if tch hs (cg os) = true then 0 else if pC (bh hs (cg os)) = 0 then 0 else 10
noncomputable def rI (hs os : List H) : Int := if prC hs os ≠ 0 then prI hs os else if tch hs (cg os) = true then 0 else if pC (bh hs (cg os)) = 0 then 0 else -1
noncomputable def rA (hs os : List H) : List H := if rB hs os = true then bh hs (cg os) else []
/-- what Commute returns -/
def eOk (p q : List H) : Prop := Ex p q ∧ Vp (xa p q) ∧ Vp (xb p q)
noncomputable def eB (p q : List H) : Bool := @decide (eOk p q) (Classical.propDecidable _)
noncomputable def eC (p q : List H) : Int := if prC p q ≠ 0 then prC p q else if tch q (cg (iv 0 p)) = true then 0 else if pC (xa p q) = 0 ∧ pC (xb p q) = 0 then 0 else 10
noncomputable def eI (p q : List H) : Int := if prC p q ≠ 0 then prI p q else if tch q (cg (iv 0 p)) = true then 0 else if pC (xa p q) = 0 ∧ pC (xb p q) = 0 then 0 else -1
noncomputable def eA1 (p q : List H) : List H := if eB p q = true then xa p q else []
noncomputable def eA2 (p q : List H) : List H := if eB p q = true then xb p q else []
theorem dec_t {P : Prop} (h : P) : @decide P (Classical.propDecidable _) = true := (@decide_eq_true_iff _ (Classical.propDecidable _)).2 h
theorem dec_f {P : Prop} (h : ¬ P) : @decide P (Classical.propDecidable _) = false := (@decide_eq_false_iff_not _ (Classical.propDecidable _)).2 h
theorem r_fault {hs os : List H} (h : prC hs os ≠ 0) : rC hs os = prC hs os ∧ rI hs os = prI hs os ∧ rB hs os = false ∧ rA hs os = [] := by
  have e : rB hs os = false := dec_f (fun k => h (prC_zero.2 ⟨k.1, k.2.1⟩))
  exact ⟨if_pos h, if_pos h, e, if_neg (by rw [e]; decide)⟩
theorem r_touch {hs os : List H} (h : prC hs os = 0) (ht : tch hs (cg os) = true) : rC hs os = 0 ∧ rI hs os = 0 ∧ rB hs os = false ∧ rA hs os = [] := by
  have e : rB hs os = false := dec_f (fun k => by rw [k.2.2.1] at ht; cases ht)
  exact ⟨(if_neg (by simp [h])).trans (if_pos ht), (if_neg (by simp [h])).trans (if_pos ht), e, if_neg (by rw [e]; decide)⟩
theorem r_large {hs os : List H} (h : prC hs os = 0) (ht : tch hs (cg os) = false) (hl : pC (bh hs (cg os)) ≠ 0) : rC hs os = 10 ∧ rI hs os = -1 ∧ rB hs os = false ∧ rA hs os = [] := by
  have e : rB hs os = false := dec_f (fun k => hl (pC_zero.2 k.2.2.2))
  exact ⟨(if_neg (by simp [h])).trans ((if_neg (by simp [ht])).trans (if_neg hl)), (if_neg (by simp [h])).trans ((if_neg (by simp [ht])).trans (if_neg hl)), e, if_neg (by rw [e]; decide)⟩
theorem r_good {hs os : List H} (h : prC hs os = 0) (ht : tch hs (cg os) = false) (hl : pC (bh hs (cg os)) = 0) : rC hs os = 0 ∧ rI hs os = 0 ∧ rB hs os = true ∧ rA hs os = bh hs (cg os) := by
  obtain ⟨h1, h2⟩ := prC_zero.1 h
  have e : rB hs os = true := dec_t ⟨h1, h2, ht, pC_zero.1 hl⟩
  exact ⟨(if_neg (by simp [h])).trans ((if_neg (by simp [ht])).trans (if_pos hl)), (if_neg (by simp [h])).trans ((if_neg (by simp [ht])).trans (if_pos hl)), e, if_pos e⟩
theorem e_fault {p q : List H} (h : prC p q ≠ 0) : eC p q = prC p q ∧ eI p q = prI p q ∧ eB p q = false ∧ eA1 p q = [] ∧ eA2 p q = [] := by
  have e : eB p q = false := dec_f (fun k => h (prC_zero.2 ⟨k.1.vp, k.1.vq⟩))
  exact ⟨if_pos h, if_pos h, e, if_neg (by rw [e]; decide), if_neg (by rw [e]; decide)⟩
theorem e_touch {p q : List H} (h : prC p q = 0) (ht : tch q (cg (iv 0 p)) = true) : eC p q = 0 ∧ eI p q = 0 ∧ eB p q = false ∧ eA1 p q = [] ∧ eA2 p q = [] := by
  have e : eB p q = false := dec_f (fun k => by rw [k.1.nt] at ht; cases ht)
  exact ⟨(if_neg (by simp [h])).trans (if_pos ht), (if_neg (by simp [h])).trans (if_pos ht), e, if_neg (by rw [e]; decide), if_neg (by rw [e]; decide)⟩
theorem e_large {p q : List H} (h : prC p q = 0) (ht : tch q (cg (iv 0 p)) = false) (hl : ¬ (pC (xa p q) = 0 ∧ pC (xb p q) = 0)) : eC p q = 10 ∧ eI p q = -1 ∧ eB p q = false ∧ eA1 p q = [] ∧ eA2 p q = [] := by
  have e : eB p q = false := dec_f (fun k => hl ⟨pC_zero.2 k.2.1, pC_zero.2 k.2.2⟩)
  exact ⟨(if_neg (by simp [h])).trans ((if_neg (by simp [ht])).trans (if_neg hl)), (if_neg (by simp [h])).trans ((if_neg (by simp [ht])).trans (if_neg hl)), e, if_neg (by rw [e]; decide), if_neg (by rw [e]; decide)⟩
theorem e_good {p q : List H} (h : prC p q = 0) (ht : tch q (cg (iv 0 p)) = false) (hl : pC (xa p q) = 0 ∧ pC (xb p q) = 0) : eC p q = 0 ∧ eI p q = 0 ∧ eB p q = true ∧ eA1 p q = xa p q ∧ eA2 p q = xb p q := by
  obtain ⟨h1, h2⟩ := prC_zero.1 h
  have e : eB p q = true := dec_t ⟨⟨h1, h2, ht⟩, pC_zero.1 hl.1, pC_zero.1 hl.2⟩
  exact ⟨(if_neg (by simp [h])).trans ((if_neg (by simp [ht])).trans (if_pos hl)), (if_neg (by simp [h])).trans ((if_neg (by simp [ht])).trans (if_pos hl)), e, if_pos e, if_pos e⟩
end Tp

/-- Rebase's return -/
def RbPost (hs os : List Tp.H) (w : World) (e : Ending) (w' : World) : Prop :=
  ∃ p cap, e = .returned (.tuple #[.agg #[.slice p (Tp.rA hs os).length cap], .bool (Tp.rB hs os), .agg #[.int .i64 (Tp.rC hs os), .int .i64 (Tp.rI hs os)]]) ∧ Ptc w' p (Tp.rA hs os) ∧ (p = none → cap = 0) ∧ (Tp.rA hs os).length ≤ cap ∧ Below w.heap.size w w'
/-- Commute's return -/
def ExPost (hs ks : List Tp.H) (w : World) (e : Ending) (w' : World) : Prop :=
  ∃ p cap q cap', e = .returned (.tuple #[.agg #[.slice p (Tp.eA1 hs ks).length cap], .agg #[.slice q (Tp.eA2 hs ks).length cap'], .bool (Tp.eB hs ks), .agg #[.int .i64 (Tp.eC hs ks), .int .i64 (Tp.eI hs ks)]]) ∧
    PtAt w.heap.size w' p (Tp.eA1 hs ks) ∧ (p = none → cap = 0) ∧ (Tp.eA1 hs ks).length ≤ cap ∧ PtAt w.heap.size w' q (Tp.eA2 hs ks) ∧ (q = none → cap' = 0) ∧ (Tp.eA2 hs ks).length ≤ cap' ∧ Below w.heap.size w w'
theorem ptc_none (w : World) : Ptc w none [] := ⟨fun _ => rfl, fun h => (h rfl).elim⟩
theorem vp_small {hs : List Tp.H} (h : Tp.Vp hs) : ∀ k ∈ hs, (∀ x ∈ k.old, x.size ≤ 140737488351232) ∧ (∀ x ∈ k.new, x.size ≤ 140737488351232) := fun k hk =>
  ⟨Tp.vc_small (Tp.ch_new h.ch k hk).2, Tp.vc_small (Tp.ch_new h.ch k hk).1⟩
theorem bd_bh {hs : List Tp.H} {cs : List Tp.Cg} (h : Tp.Vp hs) (hc : Bc cs) : ∀ k ∈ Tp.bh hs cs, -2000000 ≤ k.at' ∧ k.at' ≤ 2000000 := fun k hk => by
  obtain ⟨x, hx, rfl⟩ := List.mem_map.1 hk
  have h1 := (bd_of h).each x hx
  have h2 := gb_bd hc x.at' cs.length
  rw [List.take_length] at h2
  have h3 : x.at' ≤ 120 := by
    obtain ⟨j, hj, rfl⟩ := List.mem_iff_getElem.1 hx
    obtain ⟨⟨pr, hok⟩, -⟩ := Tp.ch_at h.ch j hj
    exact hok.hi
  dsimp only
  omega

set_option maxRecDepth 100000 in
set_option maxHeartbeats 8000000 in
theorem cmRebase_any (p q : Option Addr) (hs ks : List Tp.H) (n cap m cap' : Nat) (w : World) (hn : n = hs.length) (hm : m = ks.length) (hp : Ptc w p hs) (hq : Ptc w q ks) (hl : hs.length ≤ 2513169434845) (hl' : ks.length ≤ 2513169434845) :
    Calls Try.prog 25 #[.agg #[.slice p n cap], .agg #[.slice q m cap']] w (RbPost hs ks w) := by
  subst hn hm
  have HP := Lib.hid hp
  have HQ := Lib.hid hq
  clear hp hq
  have up0 : Below w.heap.size w ((((w.alloc (.cells #[.slice p hs.length cap] 41 (0, 0))).alloc (.cells #[.slice q ks.length cap'] 41 (0, 0))).alloc (.cells #[.slice none 0 0] 41 (0, 0))).alloc (.cells #[.int .i64 0, .int .i64 0] 25 (0, 0))) := up_alloc (up_alloc (up_alloc (up_alloc (Below.refl _ _) _) _) _) _
  have O0 := Lib.hid (((One.new w (.slice p hs.length cap) 41 w.heap.size rfl).alloc (.cells #[.slice q ks.length cap'] 41 (0, 0))).alloc (.cells #[.slice none 0 0] 41 (0, 0)) |>.alloc (.cells #[.int .i64 0, .int .i64 0] 25 (0, 0)))
  have S0 := Lib.hid ((One.new (w.alloc (.cells #[.slice p hs.length cap] 41 (0, 0))) (.slice q ks.length cap') 41 (w.heap.size + 1) (by simp)).alloc (.cells #[.slice none 0 0] 41 (0, 0)) |>.alloc (.cells #[.int .i64 0, .int .i64 0] 25 (0, 0)))
  have R0 := Lib.hid ((One.new ((w.alloc (.cells #[.slice p hs.length cap] 41 (0, 0))).alloc (.cells #[.slice q ks.length cap'] 41 (0, 0))) (.slice none 0 0) 41 (w.heap.size + 1 + 1) (by simp)).alloc (.cells #[.int .i64 0, .int .i64 0] 25 (0, 0)))
  have F0 : Hid (Flt ((((w.alloc (.cells #[.slice p hs.length cap] 41 (0, 0))).alloc (.cells #[.slice q ks.length cap'] 41 (0, 0))).alloc (.cells #[.slice none 0 0] 41 (0, 0))).alloc (.cells #[.int .i64 0, .int .i64 0] 25 (0, 0))) (w.heap.size + 1 + 1 + 1) 0 0) := by
    have := Flt.new (((w.alloc (.cells #[.slice p hs.length cap] 41 (0, 0))).alloc (.cells #[.slice q ks.length cap'] 41 (0, 0))).alloc (.cells #[.slice none 0 0] 41 (0, 0))) 0 0 25
    rw [World.size_alloc, World.size_alloc, World.size_alloc] at this
    exact this
  go_enter Try.func25, Try.ntmps25
  go_wp2_with fail
  obtain ⟨w0, hw0⟩ : ∃ w0, w0 = (((w.alloc (.cells #[.slice p hs.length cap] 41 (0, 0))).alloc (.cells #[.slice q ks.length cap'] 41 (0, 0))).alloc (.cells #[.slice none 0 0] 41 (0, 0))).alloc (.cells #[.int .i64 0, .int .i64 0] 25 (0, 0)) := ⟨_, rfl⟩
  rw [← hw0] at up0 O0 S0 R0 F0 ⊢
  clear hw0
  have oc := O0.out.c
  have sc := S0.out.c
  go_wp2_with fail
  refine (cmValidate_any p q hs ks _ cap _ cap' _ rfl rfl (HP.out.mono up0) (HQ.out.mono up0) hl hl').mono ?_
  rintro e w1 ⟨rfl, hb1⟩
  have u1 := up_call up0 hb1
  have O1 := Lib.hid (O0.out.up hb1)
  have S1 := Lib.hid (S0.out.up hb1)
  have R1 := Lib.hid (R0.out.up hb1)
  have F1 := Lib.hid (F0.out.up hb1)
  have hf1 := F1.out.lt
  have hf0 := F0.out.lt
  clear up0 hb1 O0 S0 R0 F0 oc sc
  by_cases hp0 : Tp.prC hs ks = 0
  · have HP0 := Lib.hid hp0
    have VV := Lib.hid (Tp.prC_zero.1 hp0)
    have hpi : Tp.prI hs ks = 0 := by
      unfold Tp.prI
      rw [if_pos (Tp.pC_zero.2 VV.out.1), if_pos (Tp.pC_zero.2 VV.out.2)]
    rw [hp0, hpi]
    clear hp0 hpi
    have O2 := Lib.hid (O1.out.alloc (.cells #[.int .i64 0, .int .i64 0] 25 (0, 0)))
    have S2 := Lib.hid (S1.out.alloc (.cells #[.int .i64 0, .int .i64 0] 25 (0, 0)))
    have R2 := Lib.hid (R1.out.alloc (.cells #[.int .i64 0, .int .i64 0] 25 (0, 0)))
    have F2 := Lib.hid (F1.out.alloc (.cells #[.int .i64 0, .int .i64 0] 25 (0, 0)))
    have u2 := up_alloc u1 (.cells #[.int .i64 0, .int .i64 0] 25 (0, 0))
    have sc := S2.out.c
    clear O1 S1 R1 F1
    go_wp2_with fail
    refine (changesOf_any q ks _ cap' _ rfl (HQ.out.mono u2) (bd_of VV.out.2)).mono ?_
    rintro e w3 ⟨v3, rfl, own3, hb3⟩
    obtain ⟨r, cr, rfl, hr, -, -, -⟩ := row_of_own own3
    have HR := Lib.hid hr
    have u3 := up_call u2 hb3
    have O3 := Lib.hid (O2.out.up hb3)
    have R3 := Lib.hid (R2.out.up hb3)
    have F3 := Lib.hid (F2.out.up hb3)
    have hcl : (Tp.cg ks).length = ks.length := by unfold Tp.cg; rw [List.length_map]
    have hkl := VV.out.2.len
    clear own3 hr hb3 O2 S2 R2 F2 sc
    have oc := O3.out.c
    go_wp2_with fail
    refine (touches_any p r hs (Tp.cg ks) _ cap ks.length cr _ rfl hcl.symm (HP.out.mono u3) (bd_of VV.out.1) HR.out (by rw [hcl]; omega)).mono ?_
    rintro e w4 ⟨rfl, hb4⟩
    have u4 := up_call u3 hb4
    have HR4 := Lib.hid (HR.out.mono hb4)
    have O4 := Lib.hid (O3.out.up hb4)
    have R4 := Lib.hid (R3.out.up hb4)
    have F4 := Lib.hid (F3.out.up hb4)
    clear hb4 O3 R3 F3 HR oc
    cases ht : Tp.tch hs (Tp.cg ks)
    · have HT := Lib.hid ht
      clear ht
      have oc := O4.out.c
      go_wp2_with fail
      refine (behind_any p r hs (Tp.cg ks) _ cap ks.length cr _ rfl hcl.symm (HP.out.mono u4) (bd_of VV.out.1) (vp_small VV.out.1) HR4.out (bc_cg (bd_of VV.out.2))).mono ?_
      rintro e w5 ⟨pa, ca, rfl, hpa, hca, hla, hb5⟩
      have HBL := Lib.hid (bh_len hs (Tp.cg ks))
      have hhl := VV.out.1.len
      have u5 := up_call u4 hb5
      have R5 := Lib.hid (R4.out.up hb5)
      have F5 := Lib.hid (F4.out.up hb5)
      have PA := Lib.hid (hpa.le (show w.heap.size + 1 + 1 + 1 + 1 ≤ w4.heap.size by have := F4.out.lt; omega))
      have u6 := up_alloc u5 (.cells #[.slice pa (Tp.bh hs (Tp.cg ks)).length ca] 41 (0, 0))
      have R6 := Lib.hid (R5.out.alloc (.cells #[.slice pa (Tp.bh hs (Tp.cg ks)).length ca] 41 (0, 0)))
      have F6 := Lib.hid (F5.out.alloc (.cells #[.slice pa (Tp.bh hs (Tp.cg ks)).length ca] 41 (0, 0)))
      have A6 := Lib.hid (One.new w5 (.slice pa (Tp.bh hs (Tp.cg ks)).length ca) 41 w5.heap.size rfl)
      have PA6 := Lib.hid (PA.out.up (up_alloc (Below.refl _ _) (.cells #[.slice pa (Tp.bh hs (Tp.cg ks)).length ca] 41 (0, 0))))
      have HCA := Lib.hid (And.intro hca hla)
      have ac := A6.out.c
      clear hpa hca hla hb5 O4 R4 F4 R5 F5 HR4 PA u5 oc
      go_wp2_with fail
      refine (valid_any pa (Tp.bh hs (Tp.cg ks)) _ ca _ rfl PA6.out.self (by rw [HBL.out]; omega)).mono ?_
      rintro e w7 ⟨rfl, hb7⟩
      have u7 := up_call u6 hb7
      have R7 := R6.out.up hb7
      have F7 := F6.out.up hb7
      have A7 := A6.out.up hb7
      have PA7 := Lib.hid (PA6.out.up hb7)
      clear hb7 R6 F6 A6 PA6 ac
      by_cases hv : Tp.pC (Tp.bh hs (Tp.cg ks)) = 0
      · have gv : decide (Tp.pC (Tp.bh hs (Tp.cg ks)) = 0) = true := by simpa using hv
        have E := Lib.hid (Tp.r_good HP0.out HT.out hv)
        clear hv
        rw [gv]
        obtain ⟨dr, d0, d1⟩ := put_both (v := .slice pa (Tp.bh hs (Tp.cg ks)).length ca) F7 R7 (by omega) 0 0
        have rc := R7.c
        have rf := R7.f
        have ac := A7.c
        obtain ⟨a0, a1, a2, a3, a4⟩ := F7
        go_wp2_with fail
        refine bodyPost_ret (v := .tuple #[.agg #[.slice pa (Tp.bh hs (Tp.cg ks)).length ca], .bool true, .agg #[.int .i64 0, .int .i64 0]]) (by simp [results, Try.results25, go_sem, d0, d1, dr]) rfl ⟨pa, ca, by rw [E.out.1, E.out.2.1, E.out.2.2.1, E.out.2.2.2], ?_, HCA.out.1, by rw [E.out.2.2.2]; exact HCA.out.2, ?_⟩
        · rw [E.out.2.2.2]
          exact (((PA7.out.set (by omega) _).set (by omega) _).set (by omega) _).self
        · exact ((u7.setCell (by dsimp only; omega) _).setCell (by dsimp only; omega) _).setCell (by dsimp only; omega) _
      · have gv : decide (Tp.pC (Tp.bh hs (Tp.cg ks)) = 0) = false := by simpa using hv
        have E := Lib.hid (Tp.r_large HP0.out HT.out hv)
        clear hv
        rw [gv]
        go_wp2_with fail
        refine (tooLarge_any _).mono ?_
        rintro e w8 ⟨rfl, hb8⟩
        have u8 := up_call u7 hb8
        have R8 := R7.up hb8
        have F8 := F7.up hb8
        obtain ⟨dr, d0, d1⟩ := put_both (v := .slice none 0 0) F8 R8 (by omega) 10 (-1)
        have rc := R8.c
        have rf := R8.f
        obtain ⟨a0, a1, a2, a3, a4⟩ := F8
        go_wp2_with fail
        refine bodyPost_ret (v := .tuple #[.agg #[.slice none 0 0], .bool false, .agg #[.int .i64 10, .int .i64 (-1)]]) (by simp [results, Try.results25, go_sem, d0, d1, dr]) rfl ⟨none, 0, by rw [E.out.1, E.out.2.1, E.out.2.2.1, E.out.2.2.2]; rfl, by rw [E.out.2.2.2]; exact ptc_none _, fun _ => rfl, by rw [E.out.2.2.2]; exact Nat.le_refl _, ?_⟩
        exact ((u8.setCell (by dsimp only; omega) _).setCell (by dsimp only; omega) _).setCell (by dsimp only; omega) _
    · have E := Lib.hid (Tp.r_touch HP0.out ht)
      clear ht
      obtain ⟨dr, d0, d1⟩ := put_both (v := .slice none 0 0) F4.out R4.out (by omega) 0 0
      have rc := R4.out.c
      have rf := R4.out.f
      obtain ⟨a0, a1, a2, a3, a4⟩ := F4.out
      go_wp2_with fail
      refine bodyPost_ret (v := .tuple #[.agg #[.slice none 0 0], .bool false, .agg #[.int .i64 0, .int .i64 0]]) (by simp [results, Try.results25, go_sem, d0, d1, dr]) rfl ⟨none, 0, by rw [E.out.1, E.out.2.1, E.out.2.2.1, E.out.2.2.2]; rfl, by rw [E.out.2.2.2]; exact ptc_none _, fun _ => rfl, by rw [E.out.2.2.2]; exact Nat.le_refl _, ?_⟩
      exact ((u4.setCell (by dsimp only; omega) _).setCell (by dsimp only; omega) _).setCell (by dsimp only; omega) _
  · have E := Lib.hid (Tp.r_fault hp0)
    have hne := hp0
    obtain ⟨dr, d0, d1⟩ := put_both (v := .slice none 0 0) (F1.out.alloc (.cells #[.int .i64 (Tp.prC hs ks), .int .i64 (Tp.prI hs ks)] 25 (0, 0))) (R1.out.alloc (.cells #[.int .i64 (Tp.prC hs ks), .int .i64 (Tp.prI hs ks)] 25 (0, 0))) (by omega) (Tp.prC hs ks) (Tp.prI hs ks)
    have rc := cell_up R1.out.c (.cells #[.int .i64 (Tp.prC hs ks), .int .i64 (Tp.prI hs ks)] 25 (0, 0))
    have rf := frozen_up R1.out.c R1.out.f (.cells #[.int .i64 (Tp.prC hs ks), .int .i64 (Tp.prI hs ks)] 25 (0, 0))
    have u2 := up_alloc u1 (.cells #[.int .i64 (Tp.prC hs ks), .int .i64 (Tp.prI hs ks)] 25 (0, 0))
    obtain ⟨a0, a1, a2, a3, a4⟩ := F1.out
    go_wp2_with fail
    go_region
    all_goals
      go_wp2_with fail
      refine bodyPost_ret (v := .tuple #[.agg #[.slice none 0 0], .bool false, .agg #[.int .i64 (Tp.prC hs ks), .int .i64 (Tp.prI hs ks)]]) (by simp [results, Try.results25, go_sem, d0, d1, dr]) rfl ⟨none, 0, by rw [E.out.1, E.out.2.1, E.out.2.2.1, E.out.2.2.2]; rfl, by rw [E.out.2.2.2]; exact ptc_none _, fun _ => rfl, by rw [E.out.2.2.2]; exact Nat.le_refl _, ?_⟩
      (repeat' (first | (with_reducible exact Below.refl _ _) | (with_reducible assumption) | (with_reducible refine below_drewN ?_ _) | (with_reducible refine Below.setCell ?_ ?_ _) | (with_reducible refine Below.alloc ?_ ?_ _) | (with_reducible refine Below.drew ?_) | go_size))
end Go.Proofs.Ytbgnckbgpiajjaa
