
/-
  The law's first, walked.
-/
import Derived.Test.YtidncnhhjfdifaaMvF
namespace Go.Proofs.Ytidncnhhjfdifaa
open Go.RowKit
set_option maxRecDepth 4000
theorem nrow_lit (w : World) (g : Nat) (l : List Int) (hg : g = w.heap.size) (t : TypeId) : Row nE (w.alloc (.cells (l.map fun n => Value.int .i64 n).toArray t (0, 0))) (some ⟨g, 0, none⟩) l := by
  subst hg
  refine ⟨(fun h => by cases h), fun _ => ⟨w.heap.size, 0, rfl, by simp, fun i hi k u hu => ?_⟩⟩
  rw [World.cell?_alloc_mark]
  simp only [nE] at hu ⊢
  match k, hu with
  | 0, hu =>
    rw [Nat.mul_one, Nat.add_zero, Nat.zero_add, List.getElem?_toArray, List.getElem?_map, List.getElem?_eq_getElem hi]
    simpa using hu
theorem first_wC : Mv.wC (Mv.vs []) 0 7 = 0 ∧ Mv.wI (Mv.vs []) 0 7 = 0 ∧ Mv.wL (Mv.vs []) 0 7 = [⟨7, [1, 0, 0, 0, 0, 0]⟩] := by decide +kernel
set_option maxRecDepth 100000 in
set_option maxHeartbeats 4000000 in
theorem first_any (w : World) : Calls Try.prog 21 #[] w (TPost w) := by
  have W1 := mvWrite_any none [] 0 0 7 w (Vs.nil _ _) (Nat.le_refl _) (by decide)
  rw [first_wC.1, first_wC.2.1, first_wC.2.2] at W1
  rw [show ([] : List Mv.R).length = 0 from rfl] at W1
  have HW := Lib.hid W1
  clear W1
  go_enter Try.func21, Try.ntmps21
  go_wp2_with fail
  refine HW.out.mono ?_
  rintro e w1 ⟨q, qs, cap, rfl, hvs, hqs, -, -, hb1⟩
  have U1 := up_alloc (Below.refl w1.heap.size w1) (.cells #[.int .i64 0, .int .i64 0] 24 (0, 0))
  have B1 := up_call hb1 U1
  have HV := Lib.hid (hvs.mono U1)
  have F1 := Flt.new w1 0 0 24
  have z1 : (w1.alloc (.cells #[.int .i64 0, .int .i64 0] 24 (0, 0))).heap.size = w1.heap.size + 1 := by simp
  have hlen : qs.length = 1 := by rw [← Mv.vs_len, hqs]; rfl
  rw [hlen]
  have HL := Lib.hid hlen
  have HQ := Lib.hid hqs
  clear hvs hqs hb1 U1 hlen
  go_wp2_with fail
  generalize w1.alloc (.cells #[.int .i64 0, .int .i64 0] 24 (0, 0)) = w2 at HV F1 B1 z1 ⊢
  obtain ⟨k0, k1, -, -, hlt⟩ := F1
  have N1 : Row nE (w2.alloc (.cells #[.int .i64 1, .int .i64 0, .int .i64 0, .int .i64 0, .int .i64 0, .int .i64 0] 3 (0, 0))) (some ⟨w2.heap.size, 0, none⟩) [1, 0, 0, 0, 0, 0] := nrow_lit w2 w2.heap.size [1, 0, 0, 0, 0, 0] rfl 3
  have U2 := up_alloc (Below.refl w2.heap.size w2) (.cells #[.int .i64 1, .int .i64 0, .int .i64 0, .int .i64 0, .int .i64 0, .int .i64 0] 3 (0, 0))
  have z2 : (w2.alloc (.cells #[.int .i64 1, .int .i64 0, .int .i64 0, .int .i64 0, .int .i64 0, .int .i64 0] 3 (0, 0))).heap.size = w2.heap.size + 1 := by simp
  generalize w2.alloc (.cells #[.int .i64 1, .int .i64 0, .int .i64 0, .int .i64 0, .int .i64 0, .int .i64 0] 3 (0, 0)) = w3 at N1 U2 z2 ⊢
  have R3 := vrow_one w3 w3.heap.size ⟨7, some ⟨w2.heap.size, 0, none⟩, 6, [1, 0, 0, 0, 0, 0]⟩ rfl
  have U3 := up_alloc (Below.refl w3.heap.size w3) (.cells #[.int .i64 7, .slice (some ⟨w2.heap.size, 0, none⟩) 6 6] 35 (0, 0))
  have VV := values_same q (some ⟨w3.heap.size, 0, none⟩) qs [⟨7, some ⟨w2.heap.size, 0, none⟩, 6, [1, 0, 0, 0, 0, 0]⟩] cap 1 _ ((HV.out.mono U2).mono U3)
    ⟨R3, fun r hr => by rw [List.mem_singleton.1 hr]; exact (show Row nE w3 (some ⟨w2.heap.size, 0, none⟩) [1, 0, 0, 0, 0, 0] from N1).mono U3⟩ HQ.out (by rw [HL.out]; decide) (fun r hr => by
      have h : r.v ∈ Mv.vs qs := List.mem_map_of_mem hr
      rw [HQ.out] at h
      have e := List.mem_singleton.1 h
      show r.v.vec.length ≤ 1000
      rw [e]; decide)
  rw [HL.out] at VV
  have B3 := Lib.hid ((up_call (up_call B1 U2) U3))
  rw [show w3.heap.size = w1.heap.size + 1 + 1 by omega, show w2.heap.size = w1.heap.size + 1 by omega] at VV
  rw [show w2.heap.size = w1.heap.size + 1 by omega] at B3
  have V2 := Lib.hid VV
  clear VV R3 U3 N1
  refine V2.out.mono ?_
  rintro e w4 ⟨rfl, n, rfl⟩
  go_wp2_with fail
  go_returns
  exact ⟨rfl, below_drewN B3.out _⟩
end Go.Proofs.Ytidncnhhjfdifaa
