/-
  The reference's Split, walked.
-/
import Derived.Test.YtnjhnejebemflaaLinF
namespace Go.Proofs.Ytnjhnejebemflaa
open Go.RowKit

theorem cutA_len (l : List UInt8) : ∀ acc, (Lin.cutA acc l).length ≤ l.length + 1 ∧ ∀ x ∈ Lin.cutA acc l, x.length ≤ acc.length + l.length := by
  induction l with
  | nil => intro acc; simp [Lin.cutA]
  | cons c r ih =>
    intro acc
    simp only [Lin.cutA]
    split
    · obtain ⟨h1, h2⟩ := ih []
      refine ⟨by simp; omega, fun x hx => ?_⟩
      rcases List.mem_cons.1 hx with rfl | hx
      · simp
      · have := h2 x hx; simp at this ⊢; omega
    · obtain ⟨h1, h2⟩ := ih (acc ++ [c])
      refine ⟨by simp; omega, fun x hx => ?_⟩
      have := h2 x hx; simp at this ⊢; omega
theorem pcs_len (s : ByteArray) : (pcs s).length ≤ s.size + 1 := by
  have := (cutA_len s.data.toList []).1
  rw [dat_len] at this
  simpa [pcs] using this
theorem pcs_small (s : ByteArray) : ∀ x ∈ pcs s, x.size ≤ s.size := by
  intro x hx
  obtain ⟨y, hy, rfl⟩ := List.mem_map.1 hx
  have := (cutA_len s.data.toList []).2 y hy
  rw [dat_len] at this
  rw [Lin.mk_size]; simpa using this
theorem pcs_pos (s : ByteArray) : 0 < (pcs s).length := by
  have := Lin.cutA_ne [] s.data.toList
  simp only [pcs, List.length_map]
  exact List.length_pos_iff.2 this
theorem sl_pcs (s : ByteArray) (x : ByteArray) (h : x = (pcs s)[(pcs s).length - 1]'(by have := pcs_pos s; omega)) :
    Lin.sl s = if x.data.toList = [] then (pcs s).take ((pcs s).length - 1) else pcs s := by
  have e : (Lin.cutA [] s.data.toList).getLast? = some x.data.toList := by
    rw [h]
    have hp := pcs_pos s
    simp only [pcs, List.length_map] at hp ⊢
    rw [List.getElem_map, Lin.mk_data, List.getLast?_eq_getElem?, List.getElem?_eq_getElem (by omega)]
  unfold Lin.sl Lin.sp
  rw [Lin.spA_cutA, e]
  by_cases h0 : x.data.toList = []
  · rw [if_pos (by rw [h0]), if_pos h0]
    simp only [pcs, List.length_map, ← List.map_take, List.dropLast_eq_take]
  · rw [if_neg (by simpa using h0), if_neg h0]; rfl

def SPost (l : List ByteArray) (c i : Int) (w : World) (e : Ending) (w' : World) : Prop :=
  ∃ p cap, e = .returned (.tuple #[.slice p l.length cap, .agg #[.int .i64 c, .int .i64 i]]) ∧ Sts w' p l ∧ (l.length ≤ cap ∧ (p = none → cap = 0)) ∧ Below w.heap.size w w'
theorem s_long {s : ByteArray} (h : 4096 < s.size) : Lin.sL s = [] ∧ Lin.sC s = 10 ∧ Lin.sI s = -1 := by
  have hc : Lin.sC s = 10 := if_pos h
  exact ⟨by rw [Lin.sL, hc, if_neg (by decide)], hc, if_pos h⟩
theorem s_bad {s : ByteArray} (h : ¬ 4096 < s.size) (h' : ¬ Lin.vC (Lin.sl s) = 0) : Lin.sL s = [] ∧ Lin.sC s = Lin.vC (Lin.sl s) ∧ Lin.sI s = Lin.vI (Lin.sl s) := by
  have hc : Lin.sC s = Lin.vC (Lin.sl s) := if_neg h
  exact ⟨by rw [Lin.sL, hc, if_neg h'], hc, if_neg h⟩
theorem s_ok {s : ByteArray} (h : ¬ 4096 < s.size) (h' : Lin.vC (Lin.sl s) = 0) : Lin.sL s = Lin.sl s ∧ Lin.sC s = 0 ∧ Lin.sI s = 0 := by
  have hc : Lin.sC s = Lin.vC (Lin.sl s) := if_neg h
  exact ⟨by rw [Lin.sL, hc, if_pos h'], by rw [hc, h'], by rw [Lin.sI, if_neg h, Lin.vI_zero h']⟩

set_option maxHeartbeats 4000000 in
theorem refSplit_any (s : ByteArray) (w : World) (hs : s.size ≤ 140737488351232) : Calls Try.prog 10 #[.string s] w (SPost (Lin.sL s) (Lin.sC s) (Lin.sI s) w) := by
  by_cases h1 : 4096 < s.size
  · have E := Lib.hid (s_long h1)
    have g0 : decide ((4096 : Int) < (s.size : Int)) = true := by rw [decide_eq_true_iff]; omega
    go_enter Try.func10, Try.ntmps10
    go_wp2_with fail
    refine (at_any _ _ _).mono ?_
    rintro e w1 ⟨rfl, hb1⟩
    have FA := (Flt.new w 0 0 24).up hb1
    have u1 := up_call (up_alloc (Below.refl w.heap.size w) _) hb1
    obtain ⟨d0, d1, -, -, -⟩ := FA.set2 10 (-1)
    obtain ⟨a0, a1, a2, a3, a4⟩ := FA
    go_wp2_with fail
    refine bodyPost_ret (v := .tuple #[.slice none 0 0, .agg #[.int .i64 10, .int .i64 (-1)]]) (by simp [results, Try.results10, go_sem, d0, d1]) rfl ⟨none, 0, by rw [E.out.1, E.out.2.1, E.out.2.2]; rfl, by rw [E.out.1]; exact sts_nil _ _, ⟨by rw [E.out.1]; exact Nat.le_refl _, fun _ => rfl⟩, ?_⟩
    exact (u1.setCell (Nat.le_refl _) _).setCell (Nat.le_refl _) _
  · have g0 : decide ((4096 : Int) < (s.size : Int)) = false := by rw [decide_eq_false_iff_not]; omega
    have H1 := Lib.hid h1
    have hpl := pcs_len s
    have hpp := pcs_pos s
    have hs4 : s.size ≤ 4096 := by omega
    clear h1
    go_enter Try.func10, Try.ntmps10
    go_wp2_with fail
    refine (pieces_any s _ hs4).mono ?_
    rintro e w1 ⟨v, rfl, own, hb1⟩
    obtain ⟨p, cap, rfl, hp, hpc, hcap, hbl⟩ := sts_own own (fun x hx => by have := pcs_small s x hx; omega) (by omega)
    have FA := Lib.hid ((Flt.new w 0 0 24).up hb1)
    have u1 := up_call (up_alloc (Below.refl w.heap.size w) _) hb1
    clear own
    obtain ⟨n, hn⟩ : ∃ n, n = (pcs s).length - 1 := ⟨_, rfl⟩
    have hnl : n < (pcs s).length := by omega
    obtain ⟨b, off, rfl, hb, hc⟩ := hp.cell hnl
    have hbl' := hbl _ rfl
    rw [World.size_alloc] at hbl'
    dsimp only at hbl'
    clear hbl
    have hsl := sl_pcs s ((pcs s)[n]) (by simp only [hn])
    have HP := Lib.hid hp
    obtain ⟨x, hx⟩ : ∃ x, x = (pcs s)[n] := ⟨_, rfl⟩
    rw [← hx, ← hn] at hsl
    rw [← hx] at hc
    have hN : Hid ((pcs s).length = n + 1) := Lib.hid (by omega)
    obtain ⟨m, hm⟩ : ∃ m, m = (pcs s).length := ⟨_, rfl⟩
    rw [← hm] at hN hnl hpl hcap hpp ⊢
    have HM := Lib.hid hm
    have e1 : ((m : Int) - 1) = (n : Int) := by have := hN.out; omega
    clear hp hx hm hn hpc
    have b0 : (0 : Int) ≤ (n : Int) := by omega
    have b1 : (n : Int) < (m : Int) := by omega
    have b2 : (n : Int) ≤ (cap : Int) := by omega
    have s1 := fun w => run_upto (some ⟨b, off, none⟩) m cap n (by omega) w
    by_cases h0 : x.data.toList = []
    case' pos =>
      rw [if_pos h0] at hsl
      have t1 : x.toList = [] := by rw [ByteArray.toList_eq]; exact h0
      have hz : Hid (n = (Lin.sl s).length) := Lib.hid (by rw [hsl, List.length_take, ← HM.out]; omega)
      have hq : Hid (Sts w1 (some ⟨b, off, none⟩) (Lin.sl s)) := Lib.hid (by rw [hsl]; exact HP.out.upto n (by rw [← HM.out]; omega))
      have hcz : (Lin.sl s).length ≤ cap := by have := hz.out; omega
      have H0 := Lib.hid hsl
      clear hsl h0
    case' neg =>
      rw [if_neg h0] at hsl
      have t1 : x.toList.isEmpty = false := by rw [ByteArray.toList_eq]; simpa using h0
      have t2 : ¬ x.toList = [] := by rw [ByteArray.toList_eq]; exact h0
      have hz : Hid (m = (Lin.sl s).length) := Lib.hid (by rw [hsl, ← HM.out])
      have hq : Hid (Sts w1 (some ⟨b, off, none⟩) (Lin.sl s)) := Lib.hid (by rw [hsl]; exact HP.out)
      have hcz : (Lin.sl s).length ≤ cap := by have := hz.out; omega
      have H0 := Lib.hid hsl
      clear hsl h0
    all_goals
      go_wp2_with fail
      refine (linesFault_any _ (Lin.sl s) _ _ _ hz.out hq.out).mono ?_
      rintro e w2 ⟨rfl, hb2⟩
      have FB := FA.out.up hb2
      have HB := Lib.hid FB
      have u2 := up_call u1 hb2
      by_cases h2 : Lin.vC (Lin.sl s) = 0
      · have E := Lib.hid (s_ok H1.out h2)
        have g1 : (Lin.vC (Lin.sl s) != 0) = false := by rw [h2]; rfl
        clear h2
        obtain ⟨d0, d1, -, -, -⟩ := (HB.out.set2 0 0).alloc (.cells #[.int .i64 (Lin.vC (Lin.sl s)), .int .i64 (Lin.vI (Lin.sl s))] 24 (0, 0))
        obtain ⟨a0, a1, a2, a3, a4⟩ := FB
        go_wp2_with fail
        refine bodyPost_ret (v := .tuple #[.slice (some ⟨b, off, none⟩) (Lin.sl s).length cap, .agg #[.int .i64 0, .int .i64 0]]) (by rw [← hz.out]; simp [results, Try.results10, go_sem, d0, d1]) rfl ⟨some ⟨b, off, none⟩, cap, by rw [E.out.1, E.out.2.1, E.out.2.2], ?_, ⟨by rw [E.out.1]; exact hcz, fun h => by cases h⟩, ?_⟩
        · rw [E.out.1]
          have q1 := (hq.out.mono hb2).set w.heap.size 0 (.int .i64 0) (fun a ha => by cases ha; dsimp only; omega)
          have q2 := q1.set w.heap.size 1 (.int .i64 0) (fun a ha => by cases ha; dsimp only; omega)
          exact q2.mono (up_alloc (Below.refl _ _) _)
        · (repeat' (first | (with_reducible exact Below.refl _ _) | (with_reducible assumption) | (with_reducible refine below_drewN ?_ _) | (with_reducible refine Below.setCell ?_ ?_ _) | (with_reducible refine Below.alloc ?_ ?_ _) | (with_reducible refine Below.drew ?_) | go_size))
      · have E := Lib.hid (s_bad H1.out h2)
        have g1 : (Lin.vC (Lin.sl s) != 0) = true := by simpa using h2
        clear h2
        obtain ⟨d0, d1, -, -, -⟩ := (HB.out.set2 (Lin.vC (Lin.sl s)) (Lin.vI (Lin.sl s))).alloc (.cells #[.int .i64 (Lin.vC (Lin.sl s)), .int .i64 (Lin.vI (Lin.sl s))] 24 (0, 0))
        obtain ⟨a0, a1, a2, a3, a4⟩ := FB
        go_wp2_with fail
        go_region
        go_wp2_with fail
        refine bodyPost_ret (v := .tuple #[.slice none 0 0, .agg #[.int .i64 (Lin.vC (Lin.sl s)), .int .i64 (Lin.vI (Lin.sl s))]]) (by simp [results, Try.results10, go_sem, d0, d1]) rfl ⟨none, 0, by rw [E.out.1, E.out.2.1, E.out.2.2]; rfl, by rw [E.out.1]; exact sts_nil _ _, ⟨by rw [E.out.1]; exact Nat.le_refl _, fun _ => rfl⟩, ?_⟩
        (repeat' (first | (with_reducible exact Below.refl _ _) | (with_reducible assumption) | (with_reducible refine below_drewN ?_ _) | (with_reducible refine Below.setCell ?_ ?_ _) | (with_reducible refine Below.alloc ?_ ?_ _) | (with_reducible refine Below.drew ?_) | go_size))
end Go.Proofs.Ytnjhnejebemflaa
