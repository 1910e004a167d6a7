/-
  The program's occurs and Apply, walked.
-/
import Derived.Test.YtolpbeemeignaaaTqB
import Derived.Test.YtolpbeemeignaaaTpA
import Derived.Test.YtolpbeemeignaaaOver
import Derived.Deep.RegionHeld3
namespace Go.Proofs.Ytolpbeemeignaaa
open Go.RowKit
set_option maxRecDepth 4000

set_option maxHeartbeats 1000000 in
theorem slicesEqual_any (p q : Option Addr) (l m : List ByteArray) (n k cap cap' : Nat) (w : World) (hn : n = l.length) (hk : k = m.length) (hp : Sts w p l) (hq : Sts w q m) :
    Calls Try.prog 70 #[.slice p n cap, .slice q k cap'] w (QPost (.bool (eqS l m)) w) := by
  subst hn hk
  have hl1 := hp.len
  have hl2 := hq.len
  by_cases hlen : l.length = m.length
  · have g0 : ((l.length : Int) != (m.length : Int)) = false := by simp [hlen]
    have g0' : (l.length != m.length) = false := by simp [hlen]
    have HL := Lib.hid hlen
    have HP := Lib.hid hp
    have HQ := Lib.hid hq
    clear hlen hp hq
    go_enter Try.func70, Try.ntmps70
    go_wp2
    go_loopw [13] (fun i wr => ∃ k n : Nat, k ≤ l.length ∧ i = .int .i64 k ∧ wr = w.drewN n ∧ Hid (l.take k = m.take k)) (fun i _ => l.length - (intOf i).toNat)
    case atStart => exact ⟨0, 0, Nat.zero_le _, rfl, rfl, Lib.hid rfl⟩
    case round =>
      obtain ⟨k, n, hk, rfl, hw, ht⟩ := hrel
      have HW := Lib.hid hw
      clear hw
      by_cases hlt : k < l.length
      · have hlt2 : k < m.length := by have := HL.out; omega
        obtain ⟨b, off, rfl, hb, hc⟩ := HP.out.cell hlt
        obtain ⟨b', off', rfl, hb', hc'⟩ := HQ.out.cell hlt2
        have h1 : wr.cell? ⟨b, off + k, none⟩ = some (.string l[k]) := by rw [HW.out, World.cell?_drewN, hc]
        have h2 : wr.cell? ⟨b', off' + k, none⟩ = some (.string m[k]) := by rw [HW.out, World.cell?_drewN, hc']
        have b7 : (0 : Int) ≤ (k : Int) := by omega
        have b8 : (k : Int) < (l.length : Int) := by omega
        have b9 : (k : Int) < (m.length : Int) := by omega
        have hn := take_next ht.out hlt hlt2
        obtain ⟨x, hx⟩ : ∃ x, x = l[k] := ⟨_, rfl⟩
        obtain ⟨y, hy⟩ : ∃ y, y = m[k] := ⟨_, rfl⟩
        rw [← hx] at h1 hn
        rw [← hy] at h2 hn
        by_cases he : x = y
        · have HN := Lib.hid (hn he)
          subst he
          clear hc hc' hx hy hn
          go_wp2_with fail
          go_quiet (fail)
          go_wp2_with fail
          go_roundw
          case rel => exact ⟨k + 1, _, by omega, by go_num, by rw [HW.out, World.drewN_drewN], HN⟩
          case measure => simp [intOf]; omega
        · have hne : eqS l m = false := eqS_false (fun e => he (by rw [hx, hy]; congr 1))
          have e1 := tl_false he
          have HE := Lib.hid hne
          clear hc hc' hx hy hn hne he
          go_wp2_with fail
          go_quiet (fail)
          go_wp2_with fail
          go_ret
          exact ⟨by rw [HE.out]; rfl, _, by rw [HW.out, World.drewN_drewN]⟩
      · have hk' : Hid (eqS l m = true) := Lib.hid (eqS_true (eq_take ht.out (by omega) HL.out))
        go_wp2_with fail
        go_ret
        exact ⟨by rw [hk'.out]; rfl, n, HW.out⟩
  · have g0 : ((l.length : Int) != (m.length : Int)) = true := by simp; omega
    have g0' : (l.length != m.length) = true := by simp [hlen]
    have hne : Hid (eqS l m = false) := Lib.hid (eqS_false (fun e => hlen (by rw [e])))
    have HL := Lib.hid hlen
    clear hlen
    go_enter Try.func70, Try.ntmps70
    go_wp2
    go_ret
    exact ⟨by rw [hne.out]; rfl, 0, rfl⟩

/-- a region that reads one hunk and lays new blocks alone -/
theorem over_hunk {id : Nat} {Q : Exit → Act → World → Prop} {a : Act} {w : World} {l : List Oper} {g : Nat} {z : Int} {o n : Value} (hm : Try.prog.follows .mixedOrders = true) (hB : Region.lexB .any l.toArray = true) (U : Hu w g z o n)
    (h : (∀ m, (over w m).cell? ⟨g, 0, none⟩ = some (.int .i64 z)) → (∀ m, (over w m).cell? ⟨g, 1, none⟩ = some o) → (∀ m, (over w m).cell? ⟨g, 2, none⟩ = some n) →
      wpQuiet Try.prog l.toArray (fun w' => ∃ n, w' = over w n) (fun a' => ∀ w', (∃ n, w' = over w n) → Q .normal a' w') l a) : (Code.region id l.toArray true).wp Try.prog Q a w :=
  over_lit hm hB (h (over_cell U.lt U.c0) (over_cell U.lt U.c1) (over_cell U.lt U.c2))

set_option maxHeartbeats 800000 in
theorem occurs_any (pt o1 n1 : Option Addr) (t : List ByteArray) (h : Tp.H) (cap o3 n2 n3 : Nat) (w : World) (hp : Sts w pt t) (hq : Sts w o1 h.old) (hc : t.length ≤ cap) (h1 : 0 ≤ h.at') (h2 : h.at' ≤ 1000000) (h3 : h.old.length ≤ 1000000) :
    Calls Try.prog 46 #[.agg #[.int .i64 h.at', .slice o1 h.old.length o3, .slice n1 n2 n3], .slice pt t.length cap] w (BPost (.bool (Tp.has t h)) w) := by
  have HP := Lib.hid hp
  have HQ := Lib.hid hq
  obtain ⟨z, hz⟩ : ∃ z : Nat, h.at' = z := ⟨h.at'.toNat, by omega⟩
  have ez : h.at'.toNat = z := by omega
  have ee : (Tp.en h).toNat = z + h.old.length := by unfold Tp.en; omega
  rw [hz]
  have U := Hu.new w (z : Int) (.slice o1 h.old.length o3) (.slice n1 n2 n3) 58
  have UH := Lib.hid U
  have hb0 : Below w.heap.size w (w.alloc (.cells #[.int .i64 (z : Int), .slice o1 h.old.length o3, .slice n1 n2 n3] 58 (0, 0))) := up_alloc (Below.refl _ _) _
  have CE : ∀ W, Calls Try.prog 47 #[.agg #[.int .i64 (z : Int), .slice o1 h.old.length o3, .slice n1 n2 n3]] W (BPost (.int .i64 ((z : Int) + (h.old.length : Int))) W) := fun W => end_any (z : Int) o1 n1 h.old.length o3 n2 n3 W (by omega) (by omega) (by omega)
  have HB := Lib.hid hb0
  have CEH := Lib.hid CE
  clear CE
  by_cases hlt : z + h.old.length ≤ t.length
  · have g2 : decide ((z : Int) + (h.old.length : Int) ≤ (t.length : Int)) = true := by rw [decide_eq_true_iff]; omega
    have s1 := fun w => run_mid pt t.length cap z (z + h.old.length) (by omega) (by omega) w
    rw [show ((z + h.old.length : Nat) : Int) = (z : Int) + (h.old.length : Int) by omega, Nat.add_sub_cancel_left] at s1
    have e1 := mid_size t z (z + h.old.length) hlt
    rw [Nat.add_sub_cancel_left] at e1
    have E : Hid (Tp.has t h = eqS (mid t z (z + h.old.length)) h.old) := Lib.hid (by
      by_cases e : mid t z (z + h.old.length) = h.old
      · rw [eqS_true e]
        exact Tp.has_true.2 ⟨by omega, by unfold Tp.en; omega, by rw [ez, ee]; exact e⟩
      · rw [eqS_false e]
        exact Tp.has_false.2 (fun k => e (by have := k.eq; rwa [ez, ee] at this)))
    have E1 := Lib.hid e1
    have MD := Lib.hid (HP.out.mid z (z + h.old.length) cap (by omega) hlt hc)
    clear e1 hz ez ee hp hq hb0 U
    go_enter Try.func46, Try.ntmps46
    go_wp2_with fail
    obtain ⟨W, hW⟩ : ∃ W, W = w.alloc (.cells #[.int .i64 (z : Int), .slice o1 h.old.length o3, .slice n1 n2 n3] 58 (0, 0)) := ⟨_, rfl⟩
    rw [← hW] at UH HB ⊢
    clear hW
    have CE := fun n => over_call (CEH.out (over W n))
    have CQ := fun n => over_quiet (slicesEqual_any (sAt pt z cap) o1 (mid t z (z + h.old.length)) h.old h.old.length h.old.length (cap - z) o3 (over W n) (by rw [E1.out]) rfl ((MD.out.mono HB.out).mono (over_below _ n)) ((HQ.out.mono HB.out).mono (over_below _ n)))
    refine over_hunk (by kernel_rfl) (by kernel_rfl) UH.out ?_
    intro r1 r2 r3
    repeat (go_big_quiet_step (first | (go_at_call 47; exact CE _) | (go_at_call 70; exact CQ _)))
    refine wpQuiet_nil ?_
    rintro _ ⟨nq, rfl⟩
    clear r1 r2 r3
    go_wp2_with fail
    go_ret
    refine ⟨by rw [E.out]; rfl, ?_⟩
    exact up_call HB.out (over_below _ _)
  · have g2 : decide ((z : Int) + (h.old.length : Int) ≤ (t.length : Int)) = false := by rw [decide_eq_false_iff_not]; omega
    have E : Hid (Tp.has t h = false) := Lib.hid (Tp.has_false.2 (fun k => hlt (by have := k.hi; unfold Tp.en at this; omega)))
    clear hz ez ee hlt hp hq hb0 U
    go_enter Try.func46, Try.ntmps46
    go_wp2_with fail
    obtain ⟨W, hW⟩ : ∃ W, W = w.alloc (.cells #[.int .i64 (z : Int), .slice o1 h.old.length o3, .slice n1 n2 n3] 58 (0, 0)) := ⟨_, rfl⟩
    rw [← hW] at UH HB ⊢
    clear hW
    have CE := fun n => over_call (CEH.out (over W n))
    refine over_hunk (by kernel_rfl) (by kernel_rfl) UH.out ?_
    intro r1 r2 r3
    repeat (go_big_quiet_step ((go_at_call 47; exact CE _)))
    refine wpQuiet_nil ?_
    rintro _ ⟨nq, rfl⟩
    clear r1 r2 r3
    go_wp2_with fail
    go_ret
    refine ⟨by rw [E.out]; rfl, ?_⟩
    exact up_call HB.out (over_below _ _)
end Go.Proofs.Ytolpbeemeignaaa
