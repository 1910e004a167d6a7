
/-
  Package sequence: Visible on whatever set; the law's small functions.
-/
import Derived.Test.YtidncnhhjfdifaaSqP
namespace Go.Proofs.Ytidncnhhjfdifaa
open Go.RowKit
set_option maxRecDepth 4000

namespace Sq
/-- in the order of elements -/
def srt (l : List O) : List O := l.mergeSort fun p q => !decide (lt q p)
theorem srt_perm (l : List O) : (srt l).Perm l := List.mergeSort_perm l _
theorem srt_srt (l : List O) : Srt (srt l) := by
  have := List.pairwise_mergeSort (le := fun p q : O => !decide (lt q p)) (fun a b c h1 h2 => by
    simp only [Bool.not_eq_true', decide_eq_false_iff_not] at *
    unfold lt at *; omega) (fun a b => by
    simp only [Bool.or_eq_true, Bool.not_eq_true', decide_eq_false_iff_not]
    unfold lt; omega) l
  refine this.imp fun h => ?_
  simpa using h
/-- what Visible hands back -/
def vL (l : List O) : List ByteArray := if vC l = 0 then vw (srt l) else []
theorem vL_perm {l l' : List O} (h : l'.Perm l) : vL l' = vL l := by
  unfold vL
  by_cases hv : vC l = 0
  · have hV := val_of hv
    rw [if_pos hv, if_pos (val_to (hV.perm h)).1, one_row hV h (srt_perm l) (srt_srt l) (srt_perm l') (srt_srt l')]
  · rw [if_neg hv, if_neg (fun hv' => hv (val_to ((val_of hv').perm h.symm)).1)]
theorem vC_perm {l l' : List O} (h : l'.Perm l) : (vC l' = 0) = (vC l = 0) := propext ⟨fun hv => (val_to ((val_of hv).perm h.symm)).1, fun hv => (val_to ((val_of hv).perm h)).1⟩
theorem vL_at {l S : List O} (h : Val l) (hp : S.Perm l) (hs : Srt S) : vL l = vw S := by
  unfold vL
  rw [if_pos (val_to h).1, one_row h (List.Perm.refl l) hp hs (srt_perm l) (srt_srt l)]
theorem vL_len (l : List O) : (vL l).length ≤ 60 := by
  unfold vL
  split
  · rename_i h; exact vw_len (val_of h) (srt_perm l) (srt_srt l)
  · simp
theorem vw_mem {S : List O} : ∀ x ∈ vw S, ∃ o ∈ S, o.line = x := by
  have : ∀ n e, ∀ x ∈ fwV (De S) (Fo S) n e, ∃ o ∈ S, o.line = x := by
    intro n
    induction n with
    | zero => intro e x h; cases h
    | succ n ih =>
      intro e x h
      unfold fwV at h
      obtain ⟨o, ho, hx⟩ := List.mem_flatMap.1 h
      rcases List.mem_append.1 hx with hx | hx
      · split at hx
        · cases hx
        · exact ⟨o, (Fo_mem ho).1, (List.mem_singleton.1 hx).symm⟩
      · exact ih _ x hx
  exact this _ _
theorem vL_small {l : List O} (hs : ∀ o ∈ l, o.line.size ≤ 140737488351232) : ∀ x ∈ vL l, x.size ≤ 140737488351232 := by
  intro x hx
  unfold vL at hx
  split at hx
  · obtain ⟨o, ho, rfl⟩ := vw_mem x hx
    exact hs o ((srt_perm l).subset ho)
  · cases hx
end Sq
/-- Visible, on whatever set -/
def VPost (l : List Sq.O) (w : World) (e : Ending) (w' : World) : Prop := ∃ p cap, e = .returned (.tuple #[.slice p (Sq.vL l).length cap, .agg #[.int .i64 (Sq.vC l), .int .i64 (Sq.vI l)]]) ∧ Sts w' p (Sq.vL l) ∧ Below w.heap.size w w'
theorem vis_any (p : Option Addr) (l : List Sq.O) (cap : Nat) (w : World) (hp : Row opE w p l) (hl : l.length ≤ 2513169434845) (hs : ∀ o ∈ l, o.line.size ≤ 140737488351232) :
    Calls Try.prog 23 #[.slice p l.length cap] w (VPost l w) := by
  by_cases hv : Sq.vC l = 0
  · refine (visible_any p l cap w hp hl hs hv (fun S h1 h2 => Nat.le_trans (Sq.vw_len (Sq.val_of hv) h1 h2) (by omega))).mono ?_
    rintro e w' ⟨v, S, rfl, h1, h2, h3, h4⟩
    rw [← Sq.vL_at (Sq.val_of hv) h1 h2] at h3
    obtain ⟨q, c, rfl, hst, -⟩ := sts_of_own h3 (Sq.vL_small hs) (by have := Sq.vL_len l; omega)
    exact ⟨q, c, by rw [hv, (Sq.val_to (Sq.val_of hv)).2], hst, h4⟩
  · refine (visible_bad p l cap w hp hl hs hv).mono ?_
    rintro e w' ⟨rfl, h⟩
    have e : Sq.vL l = [] := if_neg hv
    exact ⟨none, 0, by rw [e]; rfl, by rw [e]; exact ⟨by simp, by simp, fun _ => rfl, fun h => (h rfl).elim⟩, h⟩
/-- an insertion -/
def insO (c r ac ar : Int) (s : ByteArray) : Sq.O := ⟨false, r, c, ar, ac, s⟩
set_option maxRecDepth 100000 in
theorem insert_any (c r ac ar : Int) (s : ByteArray) (w : World) : Calls Try.prog 34 #[.int .i64 c, .int .i64 r, .int .i64 ac, .int .i64 ar, .string s] w (BPost (.agg #[.bool false, .int .i64 r, .int .i64 c, .int .i64 ar, .int .i64 ac, .string s]) w) := by
  go_enter Try.func34, Try.ntmps34
  go_wp2_with fail
  refine bodyPost_ret (v := .agg #[.bool false, .int .i64 r, .int .i64 c, .int .i64 ar, .int .i64 ac, .string s]) (by simp [results, Try.results34, go_sem]) rfl ⟨rfl, ?_⟩
  exact up_alloc (Below.refl _ _) _
def uA : ByteArray := ⟨#[97]⟩
def uB : ByteArray := ⟨#[98]⟩
theorem lt_val : Sq.Val [insO 1 0 0 0 uA, insO 2 0 0 0 uB] := Sq.val_of (by decide +kernel)
theorem lt_vL : Sq.vL [insO 1 0 0 0 uA, insO 2 0 0 0 uB] = [uB, uA] := by
  rw [Sq.vL_at lt_val (List.Perm.refl _) (by unfold Sq.Srt; decide)]
  decide +kernel
theorem sts_two (w : World) (g : Nat) (x y : ByteArray) (hg : g = w.heap.size) (hx : x.size ≤ 140737488351232) (hy : y.size ≤ 140737488351232) : Sts (w.alloc (.cells #[.string x, .string y] 9)) (some ⟨g, 0, none⟩) [x, y] := by
  subst hg
  refine ⟨?_, by simp, (fun h => by cases h), fun _ => ⟨w.heap.size, 0, rfl, by simp, fun i hi => ?_⟩⟩
  · intro s hs
    simp only [List.mem_cons, List.not_mem_nil, or_false] at hs
    rcases hs with rfl | rfl
    · exact hx
    · exact hy
  · rw [Nat.zero_add, World.cell?_alloc_mark]
    have : i = 0 ∨ i = 1 := by simp at hi; omega
    rcases this with rfl | rfl <;> rfl

theorem row_lit (w : World) (g : Nat) (l : List Sq.O) (hg : g = w.heap.size) : Row opE (w.alloc (.cells (l.flatMap opE.enc).toArray 53 (0, 0))) (some ⟨g, 0, none⟩) l := by
  subst hg
  refine ⟨(fun h => by cases h), fun _ => ⟨w.heap.size, 0, rfl, by simp, fun i hi k u hu => ?_⟩⟩
  rw [Nat.zero_add, World.cell?_alloc_mark]
  have := flat_at opE l i hi k u hu
  rw [List.getElem?_toArray]
  exact this
set_option maxRecDepth 100000 in
set_option maxHeartbeats 4000000 in
theorem latest_any (w : World) : Calls Try.prog 29 #[] w (TPost w) := by
  go_enter Try.func29, Try.ntmps29
  go_wp2_with fail
  refine (insert_any 1 0 0 0 uA w).mono ?_
  rintro e w1 ⟨rfl, hb1⟩
  go_wp2_with fail
  refine (insert_any 2 0 0 0 uB w1).mono ?_
  rintro e w2 ⟨rfl, hb2⟩
  go_wp2_with fail
  have hr := row_lit w2 w2.heap.size [insO 1 0 0 0 uA, insO 2 0 0 0 uB] rfl
  have ha := up_alloc (up_call hb1 hb2) (.cells ([insO 1 0 0 0 uA, insO 2 0 0 0 uB].flatMap opE.enc).toArray 53 (0, 0))
  refine (vis_any _ [insO 1 0 0 0 uA, insO 2 0 0 0 uB] 2 _ hr (by simp) (fun o ho => by simp at ho; rcases ho with rfl | rfl <;> decide)).mono ?_
  rintro e w3 ⟨p, cap, rfl, hst, hb3⟩
  rw [lt_vL] at hst
  rw [lt_vL, (Sq.val_to lt_val).1, (Sq.val_to lt_val).2]
  have hb := Lib.hid (up_call ha hb3)
  have HS := Lib.hid hst
  clear hst hb3 ha hr hb1 hb2
  go_wp2_with fail
  have u4 := up_alloc (Below.refl w3.heap.size w3) (.cells #[.int .i64 0, .int .i64 0] 24 (0, 0))
  have z4 : (w3.alloc (.cells #[.int .i64 0, .int .i64 0] 24 (0, 0))).heap.size = w3.heap.size + 1 := by simp
  generalize w3.alloc (.cells #[.int .i64 0, .int .i64 0] 24 (0, 0)) = w4 at u4 z4 ⊢
  rw [← z4]
  have S4 := sts_two w4 w4.heap.size uB uA rfl (by decide) (by decide)
  refine (equal_any p (some ⟨w4.heap.size, 0, none⟩) [uB, uA] [uB, uA] 2 2 cap 2 _ rfl rfl (HS.out.mono (up_alloc u4 _)) S4).mono ?_
  rintro e w5 ⟨rfl, n, rfl⟩
  rw [eqS_true rfl]
  have hb5 := Lib.hid (up_alloc (up_call hb.out u4) (.cells #[.string uB, .string uA] 9 (0, 0)))
  clear S4
  go_wp2_with fail
  go_returns
  refine ⟨rfl, ?_⟩
  have := hb5.out
  exact ⟨this.os, this.tape, this.output, this.size, this.block⟩
end Go.Proofs.Ytidncnhhjfdifaa
