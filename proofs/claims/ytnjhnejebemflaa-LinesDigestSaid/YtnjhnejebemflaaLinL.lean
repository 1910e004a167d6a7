/-
  The walk of LinesConcatenated.
-/
import Derived.Test.YtnjhnejebemflaaLinJ
namespace Go.Proofs.Ytnjhnejebemflaa
open Go.RowKit

theorem jl_size_le (l : List ByteArray) : (Lin.jS l).size ≤ 4096 := by
  by_cases hc : Lin.jC l = 0
  · rw [Lin.jS, if_pos hc]; exact (Lin.jC_zero hc).2
  · rw [Lin.jS, if_neg hc]; decide

theorem append_size (a b : ByteArray) : (a ++ b).size = a.size + b.size := by
  rw [← dat_len, ← dat_len a, ← dat_len b]; simp [ByteArray.data_append]

set_option maxHeartbeats 4000000 in
theorem concatenated_walk (p : Option Addr) (l : List ByteArray) (cap : Nat) (s : ByteArray) (w : World) (hp : Sts w p l) (hc : p = none → cap = 0) (hl : l.length ≤ 8796093021952) (hs : s.size ≤ 140737488351232) :
    Calls Try.prog 7 #[.slice p l.length cap, .string s] w (TPost w) := by
  have HP := Lib.hid hp
  have HC := Lib.hid hc
  have hj := jl_size_le l
  have hz := append_size (Lin.jS l) s
  obtain ⟨t, ht⟩ : ∃ t, Lin.jS l ++ s = t := ⟨_, rfl⟩
  rw [ht] at hz
  have hts : t.size ≤ 140737488351232 + 4096 := by omega
  have HT := Lib.hid ht
  clear hp hc
  go_enter Try.func7, Try.ntmps7
  go_wp2_with fail
  refine (join_any _ l _ _ _ rfl HP.out).mono ?_
  rintro e w1 ⟨rfl, u1⟩
  have F1 := Lib.hid (Flt.new w1 (Lin.jC l) (Lin.jI l) 24)
  go_wp2_with fail
  refine (split_any s _ hs).mono ?_
  rintro e w2 ⟨p2, cap2, rfl, hp2, ⟨-, hpc2⟩, hb2⟩
  have u2 := up_call (up_alloc u1 (.cells #[.int .i64 (Lin.jC l), .int .i64 (Lin.jI l)] 24 (0, 0))) hb2
  have P2 := Lib.hid (hp2.mono (up_alloc (Below.refl _ _) (.cells #[.int .i64 (Lin.sC s), .int .i64 (Lin.sI s)] 24 (0, 0))))
  have HC2 := Lib.hid hpc2
  have F1b := Lib.hid ((F1.out.up hb2).alloc (.cells #[.int .i64 (Lin.sC s), .int .i64 (Lin.sI s)] 24 (0, 0)))
  have F2 := Lib.hid (Flt.new w2 (Lin.sC s) (Lin.sI s) 24)
  clear hp2 hb2 hpc2 F1 u1
  by_cases h1 : Lin.jC l = 0
  · by_cases h2 : Lin.sC s = 0
    · by_cases h3 : Lin.sC t = 0
      · obtain ⟨ht1, -⟩ := Lin.jC_zero h1
        have hjs : Lin.jS l = Lin.jl l := by rw [Lin.jS, if_pos h1]
        have hL : Lin.sL t = l ++ Lin.sL s := by
          rw [Lin.sL, if_pos h3, ← HT.out, hjs, Lin.sl_jl_append ht1, Lin.sL, if_pos h2]
        have hlen := (Lin.sC_zero h2).2.1
        have hl2 : (Lin.sL s).length ≤ 120 := by rw [Lin.sL, if_pos h2]; exact hlen
        have hl1 := ht1.1
        have HL := Lib.hid hL
        have k1 : (Lin.jC l != 0) = false := by rw [h1]; rfl
        have k2 : (Lin.sC s != 0) = false := by rw [h2]; rfl
        have k3 : (Lin.sC t != 0) = false := by rw [h3]; rfl
        clear h1 h2 h3 hL hjs ht1 hlen
        go_wp2_with fail
        refine (split_big t _ (by omega)).mono ?_
        rintro e w3 ⟨p3, cap3, rfl, hp3, -, hb3⟩
        have u3 := up_call (up_alloc u2 (.cells #[.int .i64 (Lin.sC s), .int .i64 (Lin.sI s)] 24 (0, 0))) hb3
        have P3 := Lib.hid hp3
        have P2b := Lib.hid (P2.out.mono hb3)
        have HPb := Lib.hid (HP.out.mono u3)
        obtain ⟨a0, a1, -, -, a4⟩ := F1b.out.up hb3
        obtain ⟨b0, b1, -, -, b4⟩ := F2.out.up hb3
        clear hp3 hb3 P2 F1b F2 u2
        go_wp2_with (first
          | (at_builtin; refine wp_appS rfl (.tmp 43) (.tmp 44) rfl (w3.heap.size + 1) _ [] l p cap rfl (ownS_empty _ _ _ (by simp) (by simp)) rfl (HPb.out.mono (up_alloc (up_alloc (Below.refl _ _) _) _)) HC.out (by simp; omega) (by simp) ?_; intro v4 w4 own4 bel4)
          | (at_builtin; refine wp_appS rfl (.tmp 45) (.tmp 46) rfl (w3.heap.size + 1) _ _ (Lin.sL s) p2 cap2 rfl own4 rfl (P2b.out.mono ((up_alloc (up_alloc (Below.refl _ _) _) _).trans (bel4.mono (by omega)))) HC2.out (by simp; omega) (by have := bel4.size; simp at this; omega) ?_; intro v5 w5 own5 bel5))
        obtain ⟨p5, cap5, rfl, hp5, -⟩ := sts_of_own own5 (fun x hx => by
          rcases List.mem_append.1 hx with hx | hx
          · exact HPb.out.small x (by simpa using hx)
          · exact P2b.out.small x hx) (by simp; omega)
        have e5 : Below (w3.heap.size + 1) (w3.alloc (.cells #[.int .i64 (Lin.sC t), .int .i64 (Lin.sI t)] 24 (0, 0))) w5 :=
          (((Below.refl _ _).alloc (by simp) _).trans bel4).trans bel5
        have u5 := (up_alloc u3 (.cells #[.int .i64 (Lin.sC t), .int .i64 (Lin.sI t)] 24 (0, 0))).trans (e5.mono (by have := u3.size; omega))
        have P3b := Lib.hid ((P3.out.mono (up_alloc (Below.refl _ _) (.cells #[.int .i64 (Lin.sC t), .int .i64 (Lin.sI t)] 24 (0, 0)))).mono (e5.mono (by simp)))
        have HP5 := Lib.hid hp5
        clear own4 own5 bel4 bel5 e5 hp5 u3 a0 a1 a4 b0 b1 b4
        refine (equal_any p3 p5 (Lin.sL t) ([] ++ l ++ Lin.sL s) _ _ _ _ _ rfl rfl P3b.out HP5.out).mono ?_
        rintro e w6 ⟨rfl, n6, rfl⟩
        rw [eqS_true (by rw [HL.out]; rfl)]
        go_wp2_with fail
        refine (pair_any _).mono ?_
        rintro e w7 ⟨rfl, hb7⟩
        go_wp2_with fail
        go_ret
        refine ⟨rfl, ?_⟩
        exact up_call (below_drewN u5 _) hb7
      · have k1 : (Lin.jC l != 0) = false := by rw [h1]; rfl
        have k2 : (Lin.sC s != 0) = false := by rw [h2]; rfl
        have k3 : (Lin.sC t != 0) = true := by simpa using h3
        clear h1 h2 h3
        go_wp2_with fail
        refine (split_big t _ (by omega)).mono ?_
        rintro e w3 ⟨p3, cap3, rfl, -, -, hb3⟩
        have u3 := up_call (up_alloc u2 (.cells #[.int .i64 (Lin.sC s), .int .i64 (Lin.sI s)] 24 (0, 0))) hb3
        obtain ⟨a0, a1, -, -, a4⟩ := F1b.out.up hb3
        obtain ⟨b0, b1, -, -, b4⟩ := F2.out.up hb3
        go_wp2_with fail
        refine (pair_any _).mono ?_
        rintro e w7 ⟨rfl, hb7⟩
        go_wp2_with fail
        go_ret
        refine ⟨rfl, ?_⟩
        exact up_call (up_alloc u3 _) hb7
    · have k1 : (Lin.jC l != 0) = false := by rw [h1]; rfl
      have k2 : (Lin.sC s != 0) = true := by simpa using h2
      clear h1 h2
      go_wp2_with fail
      refine (split_big t _ (by omega)).mono ?_
      rintro e w3 ⟨p3, cap3, rfl, -, -, hb3⟩
      have u3 := up_call (up_alloc u2 (.cells #[.int .i64 (Lin.sC s), .int .i64 (Lin.sI s)] 24 (0, 0))) hb3
      obtain ⟨a0, a1, -, -, a4⟩ := F1b.out.up hb3
      obtain ⟨b0, b1, -, -, b4⟩ := F2.out.up hb3
      go_wp2_with fail
      refine (pair_any _).mono ?_
      rintro e w7 ⟨rfl, hb7⟩
      go_wp2_with fail
      go_ret
      refine ⟨rfl, ?_⟩
      exact up_call (up_alloc u3 _) hb7
  · have k1 : (Lin.jC l != 0) = true := by simpa using h1
    clear h1
    go_wp2_with fail
    refine (split_big t _ (by omega)).mono ?_
    rintro e w3 ⟨p3, cap3, rfl, -, -, hb3⟩
    have u3 := up_call (up_alloc u2 (.cells #[.int .i64 (Lin.sC s), .int .i64 (Lin.sI s)] 24 (0, 0))) hb3
    obtain ⟨a0, a1, -, -, a4⟩ := F1b.out.up hb3
    go_wp2_with fail
    refine (pair_any _).mono ?_
    rintro e w7 ⟨rfl, hb7⟩
    go_wp2_with fail
    go_ret
    refine ⟨rfl, ?_⟩
    exact up_call (up_alloc u3 _) hb7
end Go.Proofs.Ytnjhnejebemflaa
