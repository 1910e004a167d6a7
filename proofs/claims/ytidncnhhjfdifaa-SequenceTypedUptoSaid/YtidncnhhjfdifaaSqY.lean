
/-
  Visible on sets however large.
-/
import Derived.Test.YtidncnhhjfdifaaSqX
namespace Go.Proofs.Ytidncnhhjfdifaa
open Go.RowKit
set_option maxRecDepth 4000
set_option maxRecDepth 100000 in
set_option maxHeartbeats 4000000 in
theorem sqValidate_big (p : Option Addr) (l : List Sq.O) (cap : Nat) (w : World) (hl : l.length ≤ 9000000000000000000) (h60 : 60 < l.length) :
    Calls Try.prog 27 #[.slice p l.length cap] w (BPost (.agg #[.int .i64 (Sq.vC l), .int .i64 (Sq.vI l)]) w) := by
  have up0 : Below w.heap.size w (w.alloc (.cells #[.int .i64 0, .int .i64 0] 24 (0, 0))) := up_alloc (Below.refl _ _) _
  have F0 := Lib.hid (Flt.new w 0 0 24)
  rw [show Sq.vC l = 2 from if_pos h60, show Sq.vI l = -1 from if_pos h60]
  have g0 : decide ((60 : Int) < (l.length : Int)) = true := by rw [decide_eq_true_iff]; omega
  have f0 := F0.out.f0
  have f1 := F0.out.f1
  go_enter Try.func27, Try.ntmps27
  go_wp2_with fail
  refine bodyPost_ret (v := .agg #[.int .i64 2, .int .i64 (-1)]) (by simp [results, Try.results27, go_sem]) rfl ⟨rfl, ?_⟩
  exact up_alloc (Below.refl _ _) _

set_option maxRecDepth 100000 in
set_option maxHeartbeats 8000000 in
theorem visible_big (p : Option Addr) (l : List Sq.O) (cap : Nat) (w : World) (hl : l.length ≤ 9000000000000000000) (h60 : 60 < l.length) :
    Calls Try.prog 23 #[.slice p l.length cap] w (BPost (.tuple #[.slice none 0 0, .agg #[.int .i64 (Sq.vC l), .int .i64 (Sq.vI l)]]) w) := by
  have up0 : Below w.heap.size w (w.alloc (.cells #[.int .i64 0, .int .i64 0] 24 (0, 0))) := up_alloc (Below.refl _ _) _
  have hbad : Sq.vC l ≠ 0 := by rw [show Sq.vC l = 2 from if_pos h60]; decide
  have HL := Lib.hid hl
  have H60 := Lib.hid h60
  have F0 := Lib.hid (Flt.new w 0 0 24)
  clear hl h60
  generalize hc : Sq.vC l = c at hbad ⊢
  generalize hi : Sq.vI l = i
  have HC := Lib.hid hc
  have HI := Lib.hid hi
  clear hc hi
  have g0 : ¬ c = 0 := hbad
  go_enter Try.func23, Try.ntmps23
  go_wp2_with (go_at_call 27; refine (sqValidate_big p l cap _ HL.out H60.out).mono ?_; rintro e w2 ⟨rfl, hb2⟩; rw [HC.out, HI.out])
  rename_i K1 hK1 K2 hK2
  have F2 := (F0.out.up hb2).up (up_alloc (Below.refl _ _) (.cells #[.int .i64 c, .int .i64 i] 24 (0, 0)))
  have G2 := Flt.new w2 c i 24
  have B2 := up_alloc (up_call up0 hb2) (.cells #[.int .i64 c, .int .i64 i] 24 (0, 0))
  generalize w2.alloc (.cells #[.int .i64 c, .int .i64 i] 24 (0, 0)) = W4 at F2 G2 B2 ⊢
  have F4 := F2.set2 c i
  obtain ⟨k0, k1, f0, f1, _⟩ := F2
  obtain ⟨m0, m1, -, -, -⟩ := G2
  have d0 := F4.c0
  have d1 := F4.c1
  go_region
  refine hK2 _ _ ?_
  go_wp2_with fail
  refine bodyPost_ret (v := .tuple #[.slice none 0 0, .agg #[.int .i64 c, .int .i64 i]]) (by simp [results, Try.results23, go_sem, d0, d1]) rfl ⟨rfl, ?_⟩
  exact ((B2.setCell (p := ⟨w.heap.size, 0, none⟩) (by simp) _).setCell (p := ⟨w.heap.size, 1, none⟩) (by simp) _).drew
theorem vis_more (p : Option Addr) (l : List Sq.O) (cap : Nat) (w : World) (hp : Row opE w p l) (hl : l.length ≤ 9000000000000000000) (hs : ∀ o ∈ l, o.line.size ≤ 140737488351232) :
    Calls Try.prog 23 #[.slice p l.length cap] w (VPost l w) := by
  by_cases h60 : 60 < l.length
  · refine (visible_big p l cap w hl h60).mono ?_
    rintro e w' ⟨rfl, h⟩
    have hv : Sq.vC l ≠ 0 := by rw [show Sq.vC l = 2 from if_pos h60]; decide
    have e : Sq.vL l = [] := if_neg hv
    exact ⟨none, 0, by rw [e]; rfl, by rw [e]; exact ⟨by simp, by simp, fun _ => rfl, fun h => (h rfl).elim⟩, h⟩
  · exact vis_any p l cap w hp (by omega) hs
end Go.Proofs.Ytidncnhhjfdifaa
