/-
  The walk of DiffAffixes.
-/
import Derived.Test.YtpipcgmfjkacgaaDfM
import Derived.Test.YtpipcgmfjkacgaaDfN
import Derived.Deep.RegionHeld3
import Derived.IntWalk
namespace Go.Proofs.Ytpipcgmfjkacgaa
open Go.RowKit

theorem mid_ok {l : List ByteArray} (lo hi : Nat) (h : Lin.vC l = 0) : Lin.vC (mid l lo hi) = 0 := by
  obtain ⟨h1, h2⟩ := Lin.vC_zero h
  refine Lin.vC_txt ⟨?_, fun s hs => h2 s (List.mem_of_mem_drop (List.mem_of_mem_take hs))⟩
  unfold Go.Proofs.Ytpipcgmfjkacgaa.mid; rw [List.length_take, List.length_drop]; omega
theorem affix_len (a b : List ByteArray) : Lin.cp a b + Lin.cs (a.drop (Lin.cp a b)) (b.drop (Lin.cp a b)) ≤ a.length ∧ Lin.cp a b + Lin.cs (a.drop (Lin.cp a b)) (b.drop (Lin.cp a b)) ≤ b.length := by
  have h1 := Lin.cp_le a b
  have h2 := Lin.cs_le (a.drop (Lin.cp a b)) (b.drop (Lin.cp a b))
  rw [List.length_drop, List.length_drop] at h2
  omega
theorem affix (a b : List ByteArray) (P S : Nat) (hP : P = Lin.cp a b) (hS : S = Lin.cs (a.drop P) (b.drop P)) : Dif.lcs a b = P + Dif.lcs (mid a P (a.length - S)) (mid b P (b.length - S)) + S := by
  have h1 := Lin.cp_le a b
  have h3 := Lin.cp_take a b
  rw [← hP] at h1 h3
  have h2 := Lin.cs_le (a.drop P) (b.drop P)
  have h4 := Lin.cs_drop (a.drop P) (b.drop P)
  rw [← hS, List.length_drop, List.length_drop] at h2 h4
  have e1 : mid a P (a.length - S) = (a.drop P).take (a.length - P - S) := by unfold mid; congr 1; omega
  have e2 : mid b P (b.length - S) = (b.drop P).take (b.length - P - S) := by unfold mid; congr 1; omega
  have k : Dif.lcs (a.drop P) (b.drop P) = Dif.lcs ((a.drop P).take (a.length - P - S)) ((b.drop P).take (b.length - P - S)) + S := by
    conv => lhs; rw [← List.take_append_drop (a.length - P - S) (a.drop P), ← List.take_append_drop (b.length - P - S) (b.drop P)]
    rw [← h4, Dif.lcs_suf, List.length_drop, List.length_drop]
    omega
  rw [e1, e2]
  conv => lhs; rw [← List.take_append_drop P a, ← List.take_append_drop P b]
  rw [← h3, Dif.lcs_pre, List.length_take, k]
  omega
theorem d_affix {a b : List ByteArray} (h : okD a b) (P S : Nat) (hP : P = Lin.cp a b) (hS : S = Lin.cs (a.drop P) (b.drop P)) : dD a b = dD (mid a P (a.length - S)) (mid b P (b.length - S)) := by
  have e := affix a b P S hP hS
  have l := affix_len a b
  rw [← hP, ← hS] at l
  rw [dD, dD, if_pos h, if_pos ⟨mid_ok _ _ h.1, mid_ok _ _ h.2⟩, mid_size a P _ (by omega), mid_size b P _ (by omega), e]
  omega

set_option maxHeartbeats 4000000 in
theorem affixes_walk (p : Option Addr) (a : List ByteArray) (cap : Nat) (q : Option Addr) (b : List ByteArray) (cap' : Nat) (w : World) (hp : Sts w p a) (hc : p = none → cap = 0) (_ : a.length ≤ 8796093021952) (hl : a.length ≤ cap)
    (hq : Sts w q b) (hc' : q = none → cap' = 0) (_ : b.length ≤ 8796093021952) (hl' : b.length ≤ cap') :
    Calls Try.prog 6 #[.slice p a.length cap, .slice q b.length cap'] w (TPost w) := by
  have CA := Lib.hid (common_any p q a b _ _ cap cap' w rfl rfl hp hq hc hc' hl hl')
  have HP := Lib.hid hp
  have HQ := Lib.hid hq
  have HL := Lib.hid hl
  have HL' := Lib.hid hl'
  clear hp hq hc hc' hl hl'
  go_enter Try.func6, Try.ntmps6
  go_wp2_with fail
  refine CA.out.mono ?_
  rintro e w1 ⟨rfl, u1⟩
  have v1 := up_alloc u1 (.cells #[.int .i64 (tC a b), .int .i64 (tI a b)] 24 (0, 0))
  by_cases h : okD a b
  · have g1 := (tC_ok h).1
    have l1 := len_ok h.1
    have l2 := len_ok h.2
    have eP : cP a b = Lin.cp a b := if_pos h
    have eS : cS a b = Lin.cs (a.drop (Lin.cp a b)) (b.drop (Lin.cp a b)) := if_pos h
    obtain ⟨P, hP⟩ : ∃ P, P = Lin.cp a b := ⟨_, rfl⟩
    rw [← hP] at eP eS
    obtain ⟨S, hS⟩ : ∃ S, S = Lin.cs (a.drop P) (b.drop P) := ⟨_, rfl⟩
    rw [← hS] at eS
    have LL := affix_len a b
    rw [← hP, ← hS] at LL
    obtain ⟨k1, k2⟩ := LL
    have DD := Lib.hid (d_affix h P S hP hS)
    have g1' := (tC_ok (show okD (mid a P (a.length - S)) (mid b P (b.length - S)) from ⟨mid_ok _ _ h.1, mid_ok _ _ h.2⟩)).1
    rw [eP, eS, g1]
    rw [g1] at v1
    have F1 := Lib.hid (Flt.new w1 0 (tI a b) 24)
    have gA : decide ((a.length : Int) < (P : Int) + (S : Int)) = false := by rw [decide_eq_false_iff_not]; omega
    have gB : decide ((b.length : Int) < (P : Int) + (S : Int)) = false := by rw [decide_eq_false_iff_not]; omega
    clear h eP eS hP hS
    go_wp2_with fail
    refine (distance_any p q a b _ _ cap cap' _ rfl rfl (HP.out.mono v1) (HQ.out.mono v1)).mono ?_
    rintro e w2 ⟨rfl, hb2⟩
    rw [g1]
    have u2 := up_call v1 hb2
    have v2 := up_alloc u2 (.cells #[.int .i64 0, .int .i64 (tI a b)] 24 (0, 0))
    have s1 := fun w => run_mid p a.length cap P (a.length - S) (by omega) (by have := HL.out; omega) w
    have s2 := fun w => run_mid q b.length cap' P (b.length - S) (by omega) (by have := HL'.out; omega) w
    rw [show ((a.length - S : Nat) : Int) = (a.length : Int) - (S : Int) by omega] at s1
    rw [show ((b.length - S : Nat) : Int) = (b.length : Int) - (S : Int) by omega] at s2
    have S1 := Lib.hid (HP.out.mid P (a.length - S) cap (by omega) (by omega) HL.out)
    have S2 := Lib.hid (HQ.out.mid P (b.length - S) cap' (by omega) (by omega) HL'.out)
    have F2 := Lib.hid (Flt.new w2 0 (tI a b) 24)
    go_wp2_with fail
    have wA : IntKind.i64.wrap ((a.length : Int) - (S : Int)) = (a.length : Int) - (S : Int) := IntWalk.i64_in _ (by omega)
    have wB : IntKind.i64.wrap ((b.length : Int) - (S : Int)) = (b.length : Int) - (S : Int) := IntWalk.i64_in _ (by omega)
    have F3 : Hid (Flt ((w2.alloc (.cells #[.int .i64 0, .int .i64 (tI a b)] 24 (0, 0))).alloc (.cells #[.int .i64 0, .int .i64 0] 24 (0, 0))) (w2.heap.size + 1) 0 0) := by
      have := Flt.new (w2.alloc (.cells #[.int .i64 0, .int .i64 (tI a b)] 24 (0, 0))) 0 0 24
      rwa [World.size_alloc] at this
    go_region_with ((first
      | (go_at_call 7; refine (distance_any (sAt p P cap) (sAt q P cap') (mid a P (a.length - S)) (mid b P (b.length - S)) (a.length - S - P) (b.length - S - P) (cap - P) (cap' - P) _ (mid_size _ _ _ (by omega)).symm (mid_size _ _ _ (by omega)).symm (S1.out.mono v2.drew) (S2.out.mono v2.drew)).mono ?_; rintro e w3 ⟨rfl, hb3⟩
         have u3 := up_call v2.drew hb3
         obtain ⟨a0, a1, a2, a3, a4⟩ := (F2.out.drewN 1).up hb3)
      | (go_at_call 7; refine (distance_any (sAt p P cap) (sAt q P cap') (mid a P (a.length - S)) (mid b P (b.length - S)) (a.length - S - P) (b.length - S - P) (cap - P) (cap' - P) _ (mid_size _ _ _ (by omega)).symm (mid_size _ _ _ (by omega)).symm (S1.out.mono (up_alloc v2 _).drew) (S2.out.mono (up_alloc v2 _).drew)).mono ?_; rintro e w3 ⟨rfl, hb3⟩
         have u3 := up_call (up_alloc v2 _).drew hb3
         obtain ⟨a0, a1, a2, a3, a4⟩ := ((F2.out.alloc _).drewN 1).up hb3
         obtain ⟨b0, b1, b2, b3, b4⟩ := (F3.out.drewN 1).up hb3)))
    all_goals rw [← DD.out]
    all_goals generalize dD a b = d
    all_goals go_wp2_with fail
    all_goals
      refine (moved_any _).mono ?_
      rintro e w6 ⟨rfl, hb6⟩
      go_wp2_with fail
      go_ret
      refine ⟨rfl, up_call ?_ hb6⟩
      have hsz := u2.size
      first
        | exact up_alloc u3 _
        | exact (u3.setCell (by dsimp only; omega) _).setCell (by dsimp only; omega) _
  · have g1 : (tC a b != 0) = true := by simpa using tC_not h
    clear h
    go_wp2_with fail
    refine (moved_any _).mono ?_
    rintro e w6 ⟨rfl, hb6⟩
    go_wp2_with fail
    go_ret
    exact ⟨rfl, up_call v1 hb6⟩
end Go.Proofs.Ytpipcgmfjkacgaa
