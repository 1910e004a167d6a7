/-
  The walk of LinesDigest.
-/
import Derived.Test.YtnjhnejebemflaaLinL
import Derived.Test.YtnjhnejebemflaaDigB
namespace Go.Proofs.Ytnjhnejebemflaa
open Go.RowKit

theorem of_str (w : World) (g : Nat) (s : ByteArray) (t : TypeId) (cap cap' : Nat) (m : Nat × Nat) (hg : g = w.heap.size) (hs : s.size ≤ 4096) :
    Calls Try.prog 20 #[.slice (some ⟨g, 0, none⟩) s.size cap'] (w.alloc (.cells (bytesRow s cap) t m)).drew (BPost (.tuple #[.int .i64 (Dig.dof (bl s)), (.agg #[.int .i64 0, .int .i64 0])]) (w.alloc (.cells (bytesRow s cap) t m)).drew) := by
  have h := of_at (some ⟨g, 0, none⟩) (bl s) s.size cap' (w.alloc (.cells (bytesRow s cap) t m)).drew (bl_length s).symm hs (bts_drew (bts_new w g s t cap m hg (by omega)) 1)
  exact h

set_option maxHeartbeats 4000000 in
theorem linesDigest_walk (p : Option Addr) (l : List ByteArray) (cap : Nat) (s : ByteArray) (w : World) (hp : Sts w p l) (_ : p = none → cap = 0) (_ : l.length ≤ 8796093021952) (hs : s.size ≤ 140737488351232) :
    Calls Try.prog 8 #[.slice p l.length cap, .string s] w (TPost w) := by
  have HP := Lib.hid hp
  clear hp
  have hcv := fun w s => run_bytes_of_string (P := Try.prog) w 9 41 5 s Try.underlying9 Try.underlying41 Try.underlying5
  go_enter Try.func8, Try.ntmps8
  go_wp2_with fail
  refine (join_any _ l _ _ _ rfl HP.out).mono ?_
  rintro e w1 ⟨rfl, u1⟩
  have F1 := Lib.hid (Flt.new w1 (Lin.jC l) (Lin.jI l) 24)
  go_wp2_with fail
  refine (split_any s _ hs).mono ?_
  rintro e w2 ⟨p2, cap2, rfl, hp2, -, hb2⟩
  have u2 := up_call (up_alloc u1 (.cells #[.int .i64 (Lin.jC l), .int .i64 (Lin.jI l)] 24 (0, 0))) hb2
  have P2 := Lib.hid (hp2.mono (up_alloc (Below.refl _ _) (.cells #[.int .i64 (Lin.sC s), .int .i64 (Lin.sI s)] 24 (0, 0))))
  have HP2 := Lib.hid (HP.out.mono (up_alloc u2 (.cells #[.int .i64 (Lin.sC s), .int .i64 (Lin.sI s)] 24 (0, 0))))
  obtain ⟨a0, a1, -, -, a4⟩ := F1.out.up hb2
  have uA := up_alloc u2 (.cells #[.int .i64 (Lin.sC s), .int .i64 (Lin.sI s)] 24 (0, 0))
  clear hp2 hb2 F1 u1 u2
  by_cases h1 : Lin.jC l = 0
  · have k1 : (Lin.jC l != 0) = false := by rw [h1]; rfl
    by_cases h2 : Lin.sC s = 0
    · have k2 : (Lin.sC s != 0) = false := by rw [h2]; rfl
      have H1 := Lib.hid h1
      clear h1 h2
      go_wp2_with fail
      refine (equal_any p p2 l (Lin.sL s) _ _ _ _ _ rfl rfl HP2.out P2.out).mono ?_
      rintro e w3 ⟨rfl, n3, rfl⟩
      have uB := below_drewN uA n3
      have P2b := Lib.hid (sts_drew P2.out n3)
      by_cases h3 : l = Lin.sL s
      · rw [eqS_true h3]
        have hjz : (Lin.jS l).size ≤ 4096 := jl_size_le l
        have HL := Lib.hid (show (Lin.sL s).length = l.length by rw [← h3])
        have P2l : Hid (Sts ((w2.alloc (.cells #[.int .i64 (Lin.sC s), .int .i64 (Lin.sI s)] 24 (0, 0))).drewN n3) p2 l) := Lib.hid (by rw [h3]; exact P2b.out)
        clear h3
        obtain ⟨x, hx⟩ : ∃ x, x = Lin.jS l := ⟨_, rfl⟩
        rw [← hx] at hjz ⊢
        have HX := Lib.hid hx
        clear hx
        go_wp2_with fail
        refine (join_any p2 l _ cap2 _ HL.out P2l.out).mono ?_
        rintro e w4 ⟨rfl, hb4⟩
        rw [← HX.out, H1.out]
        have u4 := up_call uB hb4
        have G1 := Lib.hid (Flt.new w4 0 (Lin.jI l) 24)
        clear hb4 uA uB a0 a1 a4
        go_wp2_with (rw [hcv])
        refine (of_str _ _ x _ _ _ _ (by simp) hjz).mono ?_
        rintro e w5 ⟨rfl, hb5⟩
        have e5 : Below (w4.heap.size + 1) (w4.alloc (.cells #[.int .i64 0, .int .i64 (Lin.jI l)] 24 (0, 0))) w5 :=
          (((Below.refl _ _).alloc (by simp) _).drew).trans (hb5.mono (by simp))
        have u5 := (up_alloc u4 (.cells #[.int .i64 0, .int .i64 (Lin.jI l)] 24 (0, 0))).trans (e5.mono (by have := u4.size; omega))
        have G1b := Lib.hid (G1.out.mono e5 (by omega))
        have G2 := Lib.hid (Flt.new w5 0 0 24)
        clear hb5 e5 u4 G1
        go_wp2_with (rw [hcv])
        refine (of_str _ _ x _ _ _ _ (by simp) hjz).mono ?_
        rintro e w6 ⟨rfl, hb6⟩
        have e6 : Below (w5.heap.size + 1) (w5.alloc (.cells #[.int .i64 0, .int .i64 0] 24 (0, 0))) w6 :=
          (((Below.refl _ _).alloc (by simp) _).drew).trans (hb6.mono (by simp))
        have u6 := (up_alloc u5 (.cells #[.int .i64 0, .int .i64 0] 24 (0, 0))).trans (e6.mono (by have := u5.size; omega))
        obtain ⟨b0, b1, -, -, b4⟩ := (G1b.out.alloc (.cells #[.int .i64 0, .int .i64 0] 24 (0, 0))).mono e6 (by have := G1b.out.lt; omega)
        obtain ⟨c0, c1, -, -, c4⟩ := G2.out.mono e6 (by omega)
        clear hb6 e6 u5 G1b G2 hcv
        go_wp2_with fail
        refine (pair_any _).mono ?_
        rintro e w7 ⟨rfl, hb7⟩
        go_wp2_with fail
        go_ret
        refine ⟨rfl, ?_⟩
        exact up_call (up_alloc u6 _) hb7
      · rw [eqS_false h3]
        clear h3
        go_wp2_with fail
        refine (pair_any _).mono ?_
        rintro e w7 ⟨rfl, hb7⟩
        go_wp2_with fail
        go_ret
        refine ⟨rfl, ?_⟩
        exact up_call uB hb7
    · have k2 : (Lin.sC s != 0) = true := by simpa using h2
      clear h1 h2
      go_wp2_with fail
      refine (pair_any _).mono ?_
      rintro e w7 ⟨rfl, hb7⟩
      go_wp2_with fail
      go_ret
      refine ⟨rfl, ?_⟩
      exact up_call uA hb7
  · have k1 : (Lin.jC l != 0) = true := by simpa using h1
    clear h1
    go_wp2_with fail
    refine (pair_any _).mono ?_
    rintro e w7 ⟨rfl, hb7⟩
    go_wp2_with fail
    go_ret
    refine ⟨rfl, ?_⟩
    exact up_call uA hb7
end Go.Proofs.Ytnjhnejebemflaa
