
/-
  Package multivalue: searches in a register, walked; equal registers.
-/
import Derived.Test.YtidncnhhjfdifaaMvB
import Derived.Shelf.Abstract
namespace Go.Proofs.Ytidncnhhjfdifaa
open Go.RowKit
set_option maxRecDepth 4000

theorem any_next {α : Type} {P : α → Bool} {l : List α} {k : Nat} (h : k < l.length) (ha : ∀ j (hj : j < l.length), j < k → P l[j] = false) (hP : P l[k] = false) : ∀ j (hj : j < l.length), j < k + 1 → P l[j] = false := by
  intro j hj hk
  rcases Nat.lt_succ_iff_lt_or_eq.1 hk with h' | rfl
  · exact ha j hj h'
  · exact hP
/-- what IndexFunc answers -/
def ix {α : Type} (P : α → Bool) (l : List α) : Int := match l.findIdx? P with | none => -1 | some k => (k : Int)
theorem ix_none {α : Type} {P : α → Bool} {l : List α} (h : ∀ j (hj : j < l.length), j < l.length → P l[j] = false) : ix P l = -1 := by
  unfold ix
  rw [List.findIdx?_eq_none_iff.2 fun x hx => ?_]
  obtain ⟨j, hj, rfl⟩ := List.mem_iff_getElem.1 hx
  exact h j hj hj
theorem ix_some {α : Type} {P : α → Bool} {l : List α} {k : Nat} (h : k < l.length) (ha : ∀ j (hj : j < l.length), j < k → P l[j] = false) (hP : P l[k] = true) : ix P l = k := by
  unfold ix
  rw [List.findIdx?_eq_some_iff_getElem.2 ⟨h, hP, fun j hj => by rw [ha j (by omega) hj]; decide⟩]
theorem ix_any {α : Type} (P : α → Bool) (l : List α) : l.any P = decide (0 ≤ ix P l) := by
  unfold ix
  cases h : l.findIdx? P with
  | none =>
    rw [List.findIdx?_eq_none_iff] at h
    rw [List.any_eq_false.2 fun x hx => by rw [h x hx]; decide]
    rfl
  | some k =>
    obtain ⟨hk, hp, -⟩ := List.findIdx?_eq_some_iff_getElem.1 h
    rw [List.any_eq_true.2 ⟨_, List.getElem_mem hk, hp⟩]
    simp
set_option maxHeartbeats 1000000 in
theorem idxO_any (p : Option Addr) (a : List Int) (cap : Nat) (w : World) (hp : Row nE w p a) (hl : a.length ≤ 100) :
    Calls Try.prog 104 #[.slice p a.length cap, .func (.func 36) #[] #[]] w (SPost (.int .i64 (ix Mv.out a)) w) := by
  have HP := Lib.hid hp
  have ef' : ∀ (args : Array Value) (w : World), (callFunc 36 args).run Try.prog w = .ok (.enter 36 args) w := enters_of Try.func36 (by kernel_rfl) rfl
  clear hp
  generalize hB : ix Mv.out a = B
  have HB := Lib.hid hB
  clear hB
  go_enter Try.func104, Try.ntmps104
  go_wp2_with fail
  go_loopw [8] (fun i wr => ∃ k : Nat, k ≤ a.length ∧ i = .int .i64 k ∧ w = wr ∧ Hid (∀ j (hj : j < a.length), j < k → Mv.out a[j] = false)) (fun i _ => a.length - (intOf i).toNat)
  case atStart => exact ⟨0, Nat.zero_le _, rfl, rfl, Lib.hid (fun j _ h => absurd h (Nat.not_lt_zero j))⟩
  case round =>
    obtain ⟨k, hk, rfl, rfl, hA⟩ := hrel
    have b0 : (0 : Int) ≤ (k : Int) := by omega
    by_cases hlt : k < a.length
    · have g1 : decide ((k : Int) < (a.length : Int)) = true := decide_eq_true (by omega)
      have g1' : decide (k < a.length) = true := decide_eq_true hlt
      have b1 : (k : Int) < (a.length : Int) := by omega
      obtain ⟨b, off, rfl, hb, h1⟩ := HP.out.nat hlt
      have NX := Lib.hid (fun h => any_next hlt hA.out h)
      have FD := Lib.hid (fun h => (ix_some hlt hA.out h).symm.trans HB.out)
      have HLT := Lib.hid hlt
      obtain ⟨x, hx⟩ : ∃ x, x = a[k]'hlt := ⟨_, rfl⟩
      rw [← hx] at h1 NX FD
      clear hx
      have CL := Lib.hid (fun w => out_any x w)
      cases hP : Mv.out x
      · have N2 := Lib.hid (NX.out hP)
        rw [hP] at CL
        clear hP NX FD
        go_wp2_with fail
        refine (CL.out _).mono ?_
        rintro e w2 ⟨rfl, rfl⟩
        go_wp2_with fail
        go_roundw
        case rel => exact ⟨k + 1, HLT.out, by go_num, trivial, N2⟩
        case measure => simp [intOf]; omega
      · have N2 := Lib.hid (FD.out hP)
        rw [hP] at CL
        clear hP NX FD
        go_wp2_with fail
        refine (CL.out _).mono ?_
        rintro e w2 ⟨rfl, rfl⟩
        go_wp2_with fail
        go_ret
        exact ⟨by first | (rw [← N2.out]; done) | (rw [← N2.out]; rfl), rfl⟩
    · have g1 : decide ((k : Int) < (a.length : Int)) = false := decide_eq_false (by omega)
      have g1' : decide (k < a.length) = false := decide_eq_false hlt
      obtain rfl : k = a.length := by omega
      have R := Lib.hid ((ix_none hA.out).symm.trans HB.out)
      go_wp2_with fail
      go_ret
      exact ⟨by first | (rw [← R.out]; done) | (rw [← R.out]; rfl), rfl⟩
theorem hasO_any (p : Option Addr) (a : List Int) (cap : Nat) (w : World) (hp : Row nE w p a) (hl : a.length ≤ 100) :
    Calls Try.prog 74 #[.slice p a.length cap, .func (.func 36) #[] #[]] w (SPost (.bool (a.any Mv.out)) w) := by
  have C := Lib.hid (idxO_any p a cap w hp hl)
  rw [ix_any]
  clear hp
  go_enter Try.func74, Try.ntmps74
  go_wp2_with fail
  refine C.out.mono ?_
  rintro e w2 ⟨rfl, rfl⟩
  go_wp2_with fail
  go_ret
  exact ⟨rfl, rfl⟩
set_option maxHeartbeats 2000000 in
theorem idxV_any (f : FuncId) (caps : Array Value) (P : Mv.R → Bool) (p : Option Addr) (rs : List Mv.R) (cap : Nat) (w : World) (hp : Vs w p rs) (hl : rs.length ≤ 100) (ef : Enters Try.prog f)
    (H : ∀ r ∈ rs, ∀ W, Below w.heap.size w W → Calls Try.prog f (#[.agg #[.int .i64 r.val, .slice r.p r.vec.length r.cap]] ++ caps) W (BPost (.bool (P r)) W)) :
    Calls Try.prog 63 #[.slice p rs.length cap, .func (.func f) #[] caps] w (BPost (.int .i64 (ix P rs)) w) := by
  have HP := Lib.hid hp
  have HH := Lib.hid H
  have ef' : ∀ (args : Array Value) (w : World), (callFunc f args).run Try.prog w = .ok (.enter f args) w := ef
  clear hp H ef
  generalize hB : ix P rs = B
  have HB := Lib.hid hB
  clear hB
  go_enter Try.func63, Try.ntmps63
  go_wp2_with fail
  go_loopw [8] (fun i wr => ∃ k : Nat, k ≤ rs.length ∧ i = .int .i64 k ∧ Hid (∀ j (hj : j < rs.length), j < k → P rs[j] = false) ∧ Hid (Below w.heap.size w wr)) (fun i _ => rs.length - (intOf i).toNat)
  case atStart => exact ⟨0, Nat.zero_le _, rfl, Lib.hid (fun j _ h => absurd h (Nat.not_lt_zero j)), Lib.hid (Below.refl _ _)⟩
  case round =>
    obtain ⟨k, hk, rfl, hA, hB⟩ := hrel
    have b0 : (0 : Int) ≤ (k : Int) := by omega
    by_cases hlt : k < rs.length
    · have g1 : decide ((k : Int) < (rs.length : Int)) = true := decide_eq_true (by omega)
      have g1' : decide (k < rs.length) = true := decide_eq_true hlt
      have b1 : (k : Int) < (rs.length : Int) := by omega
      obtain ⟨b, off, rfl, hb, c0, c1, hr⟩ := (HP.out.mono hB.out).cell hlt
      have NX := Lib.hid (fun h => any_next hlt hA.out h)
      have FD := Lib.hid (fun h => (ix_some hlt hA.out h).symm.trans HB.out)
      have HLT := Lib.hid hlt
      have ST := Lib.hid (HH.out _ (List.getElem_mem hlt) wr hB.out)
      obtain ⟨⟨x, xp, xc, xv⟩, hx⟩ : ∃ x, x = rs[k]'hlt := ⟨_, rfl⟩
      rw [← hx] at c0 c1 NX FD ST
      dsimp only at c0 c1 ST
      clear hx hr
      cases hP : P ⟨x, xp, xc, xv⟩
      · have N2 := Lib.hid (NX.out hP)
        rw [hP] at ST
        clear hP NX FD
        go_wp2_with fail
        refine ST.out.mono ?_
        rintro e w2 ⟨rfl, hb2⟩
        have B2 := Lib.hid (up_call hB.out hb2)
        clear hb2
        go_wp2_with fail
        go_roundw
        case rel => exact ⟨k + 1, HLT.out, by go_num, N2, B2⟩
        case measure => simp [intOf]; omega
      · have N2 := Lib.hid (FD.out hP)
        rw [hP] at ST
        clear hP NX FD
        go_wp2_with fail
        refine ST.out.mono ?_
        rintro e w2 ⟨rfl, hb2⟩
        have B2 := Lib.hid (up_call hB.out hb2)
        clear hb2
        go_wp2_with fail
        go_ret
        exact ⟨by first | (rw [← N2.out]; done) | (rw [← N2.out]; rfl), B2.out⟩
    · have g1 : decide ((k : Int) < (rs.length : Int)) = false := decide_eq_false (by omega)
      have g1' : decide (k < rs.length) = false := decide_eq_false hlt
      obtain rfl : k = rs.length := by omega
      have R := Lib.hid ((ix_none hA.out).symm.trans HB.out)
      go_wp2_with fail
      go_ret
      exact ⟨by first | (rw [← R.out]; done) | (rw [← R.out]; rfl), hB.out⟩
theorem hasV_any (f : FuncId) (caps : Array Value) (P : Mv.R → Bool) (p : Option Addr) (rs : List Mv.R) (cap : Nat) (w : World) (hp : Vs w p rs) (hl : rs.length ≤ 100) (ef : Enters Try.prog f)
    (H : ∀ r ∈ rs, ∀ W, Below w.heap.size w W → Calls Try.prog f (#[.agg #[.int .i64 r.val, .slice r.p r.vec.length r.cap]] ++ caps) W (BPost (.bool (P r)) W)) :
    Calls Try.prog 65 #[.slice p rs.length cap, .func (.func f) #[] caps] w (BPost (.bool (rs.any P)) w) := by
  have C := Lib.hid (idxV_any f caps P p rs cap w hp hl ef H)
  rw [ix_any]
  clear hp H ef
  go_enter Try.func65, Try.ntmps65
  go_wp2_with fail
  refine C.out.mono ?_
  rintro e w2 ⟨rfl, hb⟩
  go_wp2_with fail
  go_ret
  exact ⟨rfl, hb⟩
theorem quiet_same {f : FuncId} {args : Array Value} {X : World} {a : Nat} {v : Value} (h : Calls Try.prog f args (X.drewN a) (QPost v (X.drewN a))) :
    Calls Try.prog f args (X.drewN a) fun e w'' => e = .returned v ∧ ∃ n, w'' = X.drewN n := h.mono fun _ _ ⟨he, m, hm⟩ => ⟨he, a + m, by rw [hm, World.drewN_drewN]⟩
/-- equal vectors, by the laws' Ints -/
theorem nints_same (p q : Option Addr) (l : List Int) (cap cap' : Nat) (w : World) (hp : Row nE w p l) (hq : Row nE w q l) (hl : l.length ≤ 1000000) :
    Calls Try.prog 49 #[.slice p l.length cap, .slice q l.length cap'] w (QPost (.bool true) w) := by
  have g0 : ((l.length : Int) != (l.length : Int)) = false := by simp
  have HP := Lib.hid hp
  have HQ := Lib.hid hq
  clear hp hq
  go_enter Try.func49, Try.ntmps49
  go_wp2
  go_loopw [5] (fun i wr => ∃ k n : Nat, k ≤ l.length ∧ i = .int .i64 k ∧ wr = w.drewN n) (fun i _ => l.length - (intOf i).toNat)
  case atStart => exact ⟨0, 0, Nat.zero_le _, rfl, rfl⟩
  case round =>
    obtain ⟨k, n, hk, rfl, hw⟩ := hrel
    have HW := Lib.hid hw
    clear hw
    by_cases hlt : k < l.length
    · obtain ⟨b, off, rfl, -, hc⟩ := HP.out.nat hlt
      obtain ⟨b', off', rfl, -, hc'⟩ := HQ.out.nat hlt
      have h1 : wr.cell? ⟨b, off + k, none⟩ = some (.int .i64 l[k]) := by rw [HW.out, World.cell?_drewN, hc]
      have h2 : wr.cell? ⟨b', off' + k, none⟩ = some (.int .i64 l[k]) := by rw [HW.out, World.cell?_drewN, hc']
      have b7 : (0 : Int) ≤ (k : Int) := by omega
      have b8 : (k : Int) < (l.length : Int) := by omega
      obtain ⟨x, hx⟩ : ∃ x, x = l[k] := ⟨_, rfl⟩
      rw [← hx] at h1 h2
      have g1 : (x != x) = false := by simp
      clear hc hc' hx
      go_wp2_with fail
      go_quiet (fail)
      go_wp2_with fail
      go_roundw
      case rel => exact ⟨k + 1, _, by omega, by go_num, by rw [HW.out, World.drewN_drewN]⟩
      case measure => simp [intOf]; omega
    · go_wp2_with fail
      go_ret
      exact ⟨rfl, n, HW.out⟩
set_option maxHeartbeats 1000000 in
/-- equal vectors, by slices.Equal -/
theorem nequal_any (p q : Option Addr) (a b : List Int) (cap cap' : Nat) (w : World) (hp : Row nE w p a) (hq : Row nE w q b) (he : a.length = b.length) (hl : a.length ≤ 1000000) :
    Calls Try.prog 67 #[.slice p a.length cap, .slice q b.length cap'] w (QPost (.bool (a == b)) w) := by
  generalize hB : (a == b) = B
  have key : ∀ k, k ≤ a.length → ((a.drop k == b.drop k) = B) → k < a.length → ∀ x y, a[k]? = some x → b[k]? = some y → (x = y → (a.drop (k + 1) == b.drop (k + 1)) = B) ∧ (x ≠ y → B = false) := by
    intro k hk hd hlt x y hx hy
    obtain ⟨h1, rfl⟩ := List.getElem?_eq_some_iff.1 hx
    obtain ⟨h2, rfl⟩ := List.getElem?_eq_some_iff.1 hy
    rw [List.drop_eq_getElem_cons h1, List.drop_eq_getElem_cons h2, List.cons_beq_cons] at hd
    constructor
    · intro e; rw [e, beq_self_eq_true, Bool.true_and] at hd; exact hd
    · intro e; rw [beq_eq_false_iff_ne.2 e, Bool.false_and] at hd; exact hd.symm
  have KEY := Lib.hid key
  have HP := Lib.hid hp
  have HQ := Lib.hid hq
  have HE := Lib.hid he
  have HB := Lib.hid hB
  clear hp hq hB key
  generalize hn : b.length = n at he ⊢
  subst he
  have HN := Lib.hid hn
  clear hn
  have g0 : ((a.length : Int) != (a.length : Int)) = false := by simp
  go_enter Try.func67, Try.ntmps67
  go_wp2
  go_loopw [13] (fun i wr => ∃ k m : Nat, k ≤ a.length ∧ i = .int .i64 k ∧ wr = w.drewN m ∧ Hid ((a.drop k == b.drop k) = B)) (fun i _ => a.length - (intOf i).toNat)
  case atStart => exact ⟨0, 0, Nat.zero_le _, rfl, rfl, Lib.hid (by simpa using HB.out)⟩
  case round =>
    obtain ⟨k, m, hk, rfl, hw, hd⟩ := hrel
    have HW := Lib.hid hw
    clear hw
    by_cases hlt : k < a.length
    · obtain ⟨b1, off, rfl, -, hc⟩ := HP.out.nat hlt
      obtain ⟨b2, off', rfl, -, hc'⟩ := HQ.out.nat (k := k) (by rw [HN.out]; exact hlt)
      have h1 : wr.cell? ⟨b1, off + k, none⟩ = some (.int .i64 a[k]) := by rw [HW.out, World.cell?_drewN, hc]
      have h2 : wr.cell? ⟨b2, off' + k, none⟩ = some (.int .i64 (b[k]'(by rw [HN.out]; exact hlt))) := by rw [HW.out, World.cell?_drewN, hc']
      have b7 : (0 : Int) ≤ (k : Int) := by omega
      have b8 : (k : Int) < (a.length : Int) := by omega
      have KK := Lib.hid (KEY.out k hk hd.out hlt _ _ (List.getElem?_eq_getElem hlt) (List.getElem?_eq_getElem (by rw [HN.out]; exact hlt)))
      obtain ⟨x, hx⟩ : ∃ x, x = a[k] := ⟨_, rfl⟩
      obtain ⟨y, hy⟩ : ∃ y, y = b[k]'(by rw [HN.out]; exact hlt) := ⟨_, rfl⟩
      rw [← hx] at h1 KK
      rw [← hy] at h2 KK
      clear hc hc' hx hy
      by_cases e : x = y
      · have NX := Lib.hid (KK.out.1 e)
        have g1 : (x != y) = false := by rw [e]; simp
        clear e KK
        go_wp2_with fail
        go_quiet (fail)
        go_wp2_with fail
        go_roundw
        case rel => exact ⟨k + 1, _, by omega, by go_num, by rw [HW.out, World.drewN_drewN], NX⟩
        case measure => simp [intOf]; omega
      · have NX := Lib.hid (KK.out.2 e)
        have g1 : (x != y) = true := by rw [bne_iff_ne]; exact e
        clear e KK
        go_wp2_with fail
        go_quiet (fail)
        go_wp2_with fail
        go_ret
        exact ⟨by rw [NX.out]; rfl, _, by rw [HW.out, World.drewN_drewN]⟩
    · have NX : Hid (B = true) := Lib.hid (by have := hd.out; rw [List.drop_eq_nil_of_le (by omega), List.drop_eq_nil_of_le (by rw [HN.out]; omega)] at this; exact this.symm)
      go_wp2_with fail
      go_ret
      exact ⟨by rw [NX.out]; rfl, m, HW.out⟩
set_option maxHeartbeats 2000000 in
/-- equal registers, by the laws' Values -/
theorem values_same (p q : Option Addr) (ra rb : List Mv.R) (cap cap' : Nat) (w : World) (hp : Vs w p ra) (hq : Vs w q rb) (he : Mv.vs ra = Mv.vs rb) (hl : ra.length ≤ 1000) (hv : ∀ r ∈ ra, r.vec.length ≤ 1000) :
    Calls Try.prog 20 #[.slice p ra.length cap, .slice q rb.length cap'] w (QPost (.bool true) w) := by
  have hlen : rb.length = ra.length := by rw [← Mv.vs_len rb, ← he, Mv.vs_len]
  have hat : ∀ k (h : k < ra.length) (h' : k < rb.length), ra[k].val = rb[k].val ∧ ra[k].vec = rb[k].vec := by
    intro k h h'
    have h1 : (Mv.vs ra)[k]? = some ra[k].v := by unfold Mv.vs; rw [List.getElem?_map, List.getElem?_eq_getElem h]; rfl
    have h2 : (Mv.vs rb)[k]? = some rb[k].v := by unfold Mv.vs; rw [List.getElem?_map, List.getElem?_eq_getElem h']; rfl
    rw [he, h2] at h1
    have := Option.some.inj h1
    unfold Mv.R.v at this
    injection this with e1 e2
    exact ⟨e1.symm, e2.symm⟩
  rw [hlen]
  have HAT := Lib.hid hat
  have HLEN := Lib.hid hlen
  have HP := Lib.hid hp
  have HQ := Lib.hid hq
  have HV := Lib.hid hv
  clear hp hq hat hlen hv he
  have g0 : ((ra.length : Int) != (ra.length : Int)) = false := by simp
  go_enter Try.func20, Try.ntmps20
  go_wp2
  go_loopw [5] (fun i wr => ∃ k n : Nat, k ≤ ra.length ∧ i = .int .i64 k ∧ wr = w.drewN n) (fun i _ => ra.length - (intOf i).toNat)
  case atStart => exact ⟨0, 0, Nat.zero_le _, rfl, rfl⟩
  case round =>
    obtain ⟨k, n, hk, rfl, hw⟩ := hrel
    have HW := Lib.hid hw
    have VP : Vs wr p ra := by rw [hw]; exact HP.out.drewN n
    have VQ : Vs wr q rb := by rw [hw]; exact HQ.out.drewN n
    clear hw
    have b7 : (0 : Int) ≤ (k : Int) := by omega
    by_cases hlt : k < ra.length
    · have b8 : (k : Int) < (ra.length : Int) := by omega
      obtain ⟨b1, o1, rfl, -, c0, c1, hr1⟩ := VP.cell hlt
      obtain ⟨b2, o2, rfl, -, d0, d1, hr2⟩ := VQ.cell (i := k) (by rw [HLEN.out]; exact hlt)
      clear VP VQ
      obtain ⟨e1, e2⟩ := HAT.out k hlt (by rw [HLEN.out]; exact hlt)
      have hv := HV.out _ (List.getElem_mem hlt)
      obtain ⟨⟨x, xp, xc, xv⟩, hx⟩ : ∃ x, x = ra[k] := ⟨_, rfl⟩
      obtain ⟨⟨y, yp, yc, yv⟩, hy⟩ : ∃ x, x = rb[k]'(by rw [HLEN.out]; exact hlt) := ⟨_, rfl⟩
      rw [← hx] at c0 c1 hr1 e1 e2 hv
      rw [← hy] at d0 d1 hr2 e1 e2
      dsimp only at c0 c1 d0 d1 hr1 hr2 e1 e2 hv
      subst e1 e2
      have g1 : (x != x) = false := by simp
      have CI := Lib.hid (fun (m : Nat) => nints_same xp yp xv xc yc _ (hr1.drewN m) (hr2.drewN m) (by omega))
      clear hx hy hr1 hr2 hv
      go_wp2_with fail
      go_quiet ((go_at_call 49; exact quiet_same (CI.out _)))
      go_wp2_with fail
      go_roundw
      case rel => exact ⟨k + 1, _, by omega, by go_num, by rw [HW.out, World.drewN_drewN]⟩
      case measure => simp [intOf]; omega
    · go_wp2_with fail
      go_ret
      exact ⟨rfl, n, HW.out⟩
end Go.Proofs.Ytidncnhhjfdifaa
