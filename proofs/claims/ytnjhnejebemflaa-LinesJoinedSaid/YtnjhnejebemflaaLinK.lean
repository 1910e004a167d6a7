/-
  The walk of LinesJoined.
-/
import Derived.Test.YtnjhnejebemflaaLinJ
namespace Go.Proofs.Ytnjhnejebemflaa
open Go.RowKit

theorem ba_ext {a b : ByteArray} (h : a.data.toList = b.data.toList) : a = b := by rw [← Lin.mk_of a, h, Lin.mk_of]
theorem jl_same {s : ByteArray} (h : s.data.toList = [] ∨ s.data.toList.getLast? = some 10) : Lin.jl (Lin.sl s) = s := by rw [Lin.jl_sl, if_pos h]
theorem jl_more {s : ByteArray} (h : ¬ (s.data.toList = [] ∨ s.data.toList.getLast? = some 10)) : Lin.jl (Lin.sl s) = s ++ ⟨#[10]⟩ := by
  rw [Lin.jl_sl, if_neg h]
  apply ba_ext
  rw [Lin.mk_data]
  simp [ByteArray.data_append]
theorem last_at (s : ByteArray) (i : Nat) (h : i < s.size) (hi : i + 1 = s.size) : s.data.toList.getLast? = some s[i] := by
  have hl := dat_len s
  rw [List.getLast?_eq_getElem?, List.getElem?_eq_getElem (by omega)]
  congr 1
  have : s.data.toList.length - 1 = i := by omega
  simp only [this]
  rfl
theorem size_nl (s : ByteArray) : (s ++ ⟨#[10]⟩).size = s.size + 1 := by
  rw [← dat_len, ← dat_len s]; simp [ByteArray.data_append]

set_option maxHeartbeats 4000000 in
theorem joined_walk (s : ByteArray) (w : World) (hs : s.size ≤ 140737488351232) :
    Calls Try.prog 6 #[.string s] w (TPost w) := by
  by_cases h1 : Lin.sC s = 0
  · obtain ⟨hsz, ht⟩ := Lin.sC_zero h1
    have hL : Lin.sL s = Lin.sl s := by rw [Lin.sL, if_pos h1]
    have HV := Lib.hid (Lin.vC_txt ht)
    have hspl := split_any s w hs
    rw [hL, h1] at hspl
    have SP := Lib.hid hspl
    clear hspl hL h1 ht
    go_enter Try.func6, Try.ntmps6
    go_wp2_with fail
    refine SP.out.mono ?_
    rintro e w1 ⟨p, cap, rfl, hp, hcap, u1⟩
    have HP := Lib.hid hp
    clear hp
    go_wp2_with fail
    refine (join_any p (Lin.sl s) _ _ _ rfl (HP.out.mono (up_alloc (Below.refl _ _) _))).mono ?_
    rintro e w2 ⟨rfl, hb2⟩
    have u2 := up_call (up_alloc u1 (.cells #[.int .i64 0, .int .i64 (Lin.sI s)] 24 (0, 0))) hb2
    clear hb2
    by_cases h0 : s.size = 0
    · have hd : s.data.toList = [] := List.length_eq_zero_iff.1 (by rw [dat_len]; exact h0)
      have hj := jl_same (s := s) (.inl hd)
      obtain ⟨q1, q2, q3⟩ := j_ok HV.out (by rw [hj]; omega)
      rw [q1, q2, q3, hj]
      have t1 : s.toList = [] := by rw [ByteArray.toList_eq]; exact hd
      have g3 : decide ((4096 : Int) < (s.size : Int)) = false := by rw [decide_eq_false_iff_not]; omega
      have H0 := Lib.hid h0
      clear h0 hd hj q1 q2 q3
      go_wp2_with fail
      refine (pair_any _).mono ?_
      rintro e w4 ⟨rfl, hb4⟩
      go_wp2_with fail
      go_ret
      refine ⟨rfl, ?_⟩
      exact up_call (up_alloc u2 _) hb4
    · obtain ⟨i, hi⟩ : ∃ i, i + 1 = s.size := ⟨s.size - 1, by omega⟩
      have hil : i < s.size := by omega
      have hla := last_at s i hil hi
      have hne : ¬ s.data.toList = [] := by intro e; have := dat_len s; rw [e] at this; simp at this; omega
      have t1 : s.toList.isEmpty = false := by rw [ByteArray.toList_eq]; simpa using hne
      have t2 : ¬ s.toList = [] := by rw [ByteArray.toList_eq]; exact hne
      have e1 : (s.size : Int) - 1 = (i : Int) := by omega
      have b0 : (0 : Int) ≤ (i : Int) := by omega
      have b1 : (i : Int) < (s.size : Int) := by omega
      have HI := Lib.hid hi
      by_cases h10 : s[i] = 10
      · have hj := jl_same (s := s) (.inr (by rw [hla, h10]))
        obtain ⟨q1, q2, q3⟩ := j_ok HV.out (by rw [hj]; omega)
        rw [q1, q2, q3, hj]
        have g2 : ((s[i].toNat : Int) == 10) = true := by rw [h10]; rfl
        have g2' : ((s[i].toNat : Int) != 10) = false := by rw [h10]; rfl
        have g3 : decide ((4096 : Int) < (s.size : Int)) = false := by rw [decide_eq_false_iff_not]; omega
        have H10 := Lib.hid h10
        clear h10 hla hne hj q1 q2 q3 hi
        go_wp2_with fail
        refine (pair_any _).mono ?_
        rintro e w4 ⟨rfl, hb4⟩
        go_wp2_with fail
        go_ret
        refine ⟨rfl, ?_⟩
        exact up_call (up_alloc u2 _) hb4
      · have hj := jl_more (s := s) (by rw [hla]; simp [hne]; exact h10)
        have hz := size_nl s
        obtain ⟨t, ht⟩ : ∃ t, s ++ ⟨#[10]⟩ = t := ⟨_, rfl⟩
        rw [ht] at hj hz
        have g2 : ((s[i].toNat : Int) == 10) = false := by
          rw [beq_eq_false_iff_ne]; intro e; apply h10; apply UInt8.toNat_inj.1; simpa using (Int.ofNat_inj.1 e)
        have g2' : ((s[i].toNat : Int) != 10) = true := by rw [bne, g2]; rfl
        have H10 := Lib.hid h10
        by_cases hlong : s.size + 1 ≤ 4096
        · obtain ⟨q1, q2, q3⟩ := j_ok HV.out (by rw [hj]; omega)
          rw [q1, q2, q3, hj]
          have g3 : decide ((4096 : Int) < (t.size : Int)) = false := by rw [decide_eq_false_iff_not]; omega
          have HZ := Lib.hid hz
          clear h10 hla hne hj q1 q2 q3 hi hz
          go_wp2_with fail
          refine (pair_any _).mono ?_
          rintro e w4 ⟨rfl, hb4⟩
          go_wp2_with fail
          go_ret
          refine ⟨rfl, ?_⟩
          exact up_call (up_alloc u2 _) hb4
        · obtain ⟨q1, q2, q3⟩ := j_long HV.out (by rw [hj]; omega)
          rw [q1, q2, q3]
          have g3 : decide ((4096 : Int) < (t.size : Int)) = true := by rw [decide_eq_true_iff]; omega
          have HZ := Lib.hid hz
          clear h10 hla hne hj q1 q2 q3 hi hz
          go_wp2_with fail
          have FJ : Hid (Flt (w2.alloc (.cells #[.int .i64 10, .int .i64 (-1)] 24 (0, 0))).drew w2.heap.size 10 (-1)) := Lib.hid ((Flt.new w2 10 (-1) 24).drewN 1)
          go_region_held3 (fun w' => w'.cell? ⟨w2.heap.size, 0, none⟩ = some (.int .i64 10) ∧ w'.cell? ⟨w2.heap.size, 1, none⟩ = some (.int .i64 (-1))) (go_keep)
            (first
              | (go_at_call 19; refine (at_any _ _ _).mono ?_; rintro e w3 ⟨rfl, hb3⟩; have FJ3 := Lib.hid (FJ.out.up hb3); obtain ⟨k0, k1, -, -, k4⟩ := FJ3.out)
              | (go_at_call 16; refine (pair_any _).mono ?_; rintro e w4 ⟨rfl, hb4⟩; obtain ⟨m0, m1, -, -, m4⟩ := FJ3.out.up hb4))
          go_wp2_with fail
          go_ret
          refine ⟨rfl, ?_⟩
          exact up_call (up_call (up_alloc u2 _).drew hb3) hb4
  · have g1 : (Lin.sC s != 0) = true := by simpa using h1
    go_enter Try.func6, Try.ntmps6
    go_wp2_with fail
    refine (split_any s _ hs).mono ?_
    rintro e w1 ⟨p, cap, rfl, hp, hcap, u1⟩
    go_wp2_with fail
    refine (pair_any _).mono ?_
    rintro e w4 ⟨rfl, hb4⟩
    go_wp2_with fail
    go_ret
    refine ⟨rfl, ?_⟩
    exact up_call (up_alloc u1 _) hb4
end Go.Proofs.Ytnjhnejebemflaa
