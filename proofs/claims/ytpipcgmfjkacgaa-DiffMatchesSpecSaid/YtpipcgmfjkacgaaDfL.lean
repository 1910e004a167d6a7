/-
  The walk of DiffCommonLongest.
-/
import Derived.Test.YtpipcgmfjkacgaaDfC
import Derived.Test.YtpipcgmfjkacgaaDfM
import Derived.Test.YtpipcgmfjkacgaaDifW
namespace Go.Proofs.Ytpipcgmfjkacgaa
open Go.RowKit

theorem kD_sub (a b : List ByteArray) : (kD a b).Sublist a ∧ (kD a b).Sublist b ∧ (okD a b → (kD a b).length = Dif.lcs a b) := by
  unfold kD
  split
  · exact ⟨(Dif.kp_all a b).1, (Dif.kp_all a b).2.1, fun _ => (Dif.kp_all a b).2.2⟩
  · exact ⟨List.nil_sublist _, List.nil_sublist _, fun h => (by rename_i h'; exact (h' h).elim)⟩
theorem sts_ofE {base : Nat} {w : World} {v : Value} {l : List ByteArray} (h : OwnE strE base w v l) (hs : ∀ x ∈ l, x.size ≤ 140737488351232) (hl : l.length ≤ 281474976710656) : ∃ p cap, v = .slice p l.length cap ∧ Sts w p l := by
  obtain ⟨p, cap, rfl, hr, -, -, -⟩ := row_of_own h
  exact ⟨p, cap, rfl, hr.sts hs hl⟩
theorem kD_small {w : World} {p : Option Addr} {a : List ByteArray} (b : List ByteArray) (h : Sts w p a) : (∀ x ∈ kD a b, x.size ≤ 140737488351232) ∧ (kD a b).length ≤ 281474976710656 :=
  ⟨fun x hx => h.small x ((kD_sub a b).1.subset hx), Nat.le_trans (kD_sub a b).1.length_le h.len⟩

set_option maxHeartbeats 4000000 in
theorem longest_walk (p : Option Addr) (a : List ByteArray) (cap : Nat) (q : Option Addr) (b : List ByteArray) (cap' : Nat) (r : Option Addr) (l : List ByteArray) (cap'' : Nat) (w : World) (hp : Sts w p a) (_ : p = none → cap = 0) (_ : a.length ≤ 8796093021952)
    (hq : Sts w q b) (_ : q = none → cap' = 0) (_ : b.length ≤ 8796093021952) (hr : Sts w r l) (_ : r = none → cap'' = 0) (_ : l.length ≤ 8796093021952) :
    Calls Try.prog 5 #[.slice p a.length cap, .slice q b.length cap', .slice r l.length cap''] w (TPost w) := by
  have HP := Lib.hid hp
  have HQ := Lib.hid hq
  have HR := Lib.hid hr
  clear hp hq hr
  go_enter Try.func5, Try.ntmps5
  go_wp2_with fail
  refine (diffCommon_any _ _ a b _ _ _ _ _ rfl rfl HP.out HQ.out).mono ?_
  rintro e w1 ⟨v, rfl, own, u1⟩
  obtain ⟨s1, s2⟩ := kD_small b HP.out
  obtain ⟨p', cp', rfl, hs⟩ := sts_ofE own s1 s2
  have HS := Lib.hid hs
  have uA := up_alloc u1 (.cells #[.int .i64 (tC a b), .int .i64 (tI a b)] 24 (0, 0))
  clear hs own
  by_cases h : okD a b
  · have g1 := (tC_ok h).1
    obtain ⟨k1, k2, k3⟩ := kD_sub a b
    have k4 := k3 h
    have kl := len_ok h.1
    have kk := k1.length_le
    have M : Hid (l.Sublist a → l.Sublist b → l.length ≤ (kD a b).length) := Lib.hid (fun h1 h2 => by rw [k4]; exact Dif.lcs_max a b l h1 h2)
    have t1 := subS_true k1
    have t2 := subS_true k2
    obtain ⟨m, hm⟩ : ∃ m, m = kD a b := ⟨_, rfl⟩
    rw [← hm] at M t1 t2 HS kk ⊢
    rw [g1] at uA ⊢
    clear h k1 k2 k3 k4 hm
    go_wp2_with fail
    refine (within_any p' p m a _ _ _ _ _ rfl rfl (HS.out.mono (up_alloc (Below.refl _ _) _)) (HP.out.mono uA)).mono ?_
    rintro e w2 ⟨rfl, n2, rfl⟩
    rw [t1]
    go_wp2_with fail
    refine (within_any p' q m b _ _ _ _ _ rfl rfl (sts_drew (HS.out.mono (up_alloc (Below.refl _ _) _)) _) (sts_drew (HQ.out.mono uA) _)).mono ?_
    rintro e w2 ⟨rfl, n3, rfl⟩
    rw [t2]
    go_wp2_with fail
    refine (within_any r p l a _ _ _ _ _ rfl rfl (sts_drew (HR.out.mono uA) _) (sts_drew (HP.out.mono uA) _)).mono ?_
    rintro e w2 ⟨rfl, n4, rfl⟩
    cases h1 : subS l a
    · clear t1 t2 h1
      go_wp2_with fail
      refine (moved_any _).mono ?_
      rintro e w6 ⟨rfl, hb6⟩
      go_wp2_with fail
      go_ret
      exact ⟨rfl, up_call (below_drewN uA _) hb6⟩
    · have H1 := Lib.hid (subS_iff.1 h1)
      clear t1 t2 h1
      go_wp2_with fail
      refine (within_any r q l b _ _ _ _ _ rfl rfl (sts_drew (HR.out.mono uA) _) (sts_drew (HQ.out.mono uA) _)).mono ?_
      rintro e w2 ⟨rfl, n5, rfl⟩
      cases h2 : subS l b
      · clear h2
        go_wp2_with fail
        refine (moved_any _).mono ?_
        rintro e w6 ⟨rfl, hb6⟩
        go_wp2_with fail
        go_ret
        exact ⟨rfl, up_call (below_drewN uA _) hb6⟩
      · have hle := M.out H1.out (subS_iff.1 h2)
        have g2 : decide (l.length ≤ m.length) = true := by simpa using hle
        have g3 : decide ((l.length : Int) ≤ (m.length : Int)) = true := by rw [decide_eq_true_iff]; omega
        clear h2
        go_wp2_with fail
        refine (moved_any _).mono ?_
        rintro e w6 ⟨rfl, hb6⟩
        go_wp2_with fail
        go_ret
        exact ⟨rfl, up_call (below_drewN uA _) hb6⟩
  · have g1 : (tC a b != 0) = true := by simpa using tC_not h
    clear h
    go_wp2_with fail
    refine (moved_any _).mono ?_
    rintro e w6 ⟨rfl, hb6⟩
    go_wp2_with fail
    go_ret
    exact ⟨rfl, up_call uA hb6⟩
end Go.Proofs.Ytpipcgmfjkacgaa
