/-
  The law's hunk, walked.
-/
import Derived.Test.YtolpbeemeignaaaTpE
namespace Go.Proofs.Ytolpbeemeignaaa
open Go.RowKit
set_option maxRecDepth 4000

set_option maxHeartbeats 2000000 in
theorem hunk_any (z : Int) (o n : Sv) (l m : List ByteArray) (w : World) (ho : Rd w o l) (hn : Rd w n m) :
    Calls Try.prog 44 #[.int .i64 z, sv o, sv n] w (fun e w' => ∃ p, e = .returned (.agg #[.slice p 1 1]) ∧ Ptc w' p [⟨z, l, m⟩] ∧ p ≠ none ∧ Below w.heap.size w w') := by
  obtain ⟨o1, o2, o3⟩ := o
  obtain ⟨n1, n2, n3⟩ := n
  have l1 := ho.len
  have l2 := hn.len
  dsimp only at l1 l2
  subst l1 l2
  have HO := Lib.hid ho
  have HN := Lib.hid hn
  clear ho hn
  simp only [sv]
  go_enter Try.func44, Try.ntmps44
  have zs : (w.alloc (.cells #[.slice (some ⟨w.heap.size + 1, 0, none⟩) 1 1] 24 (0, 0))).heap.size = w.heap.size + 1 := by simp
  have B : Below w.heap.size w ((w.alloc (.cells #[.slice (some ⟨w.heap.size + 1, 0, none⟩) 1 1] 24 (0, 0))).alloc (.cells #[.int .i64 z, .slice o1 l.length o3, .slice n1 m.length n3] 58 (0, 0))) := up_alloc (up_alloc (Below.refl _ _) _) _
  have K : ∀ (j : Nat), ((w.alloc (.cells #[.slice (some ⟨w.heap.size + 1, 0, none⟩) 1 1] 24 (0, 0))).alloc (.cells #[.int .i64 z, .slice o1 l.length o3, .slice n1 m.length n3] 58 (0, 0))).cell? ⟨w.heap.size + 1, j, none⟩ = (#[Value.int .i64 z, .slice o1 l.length o3, .slice n1 m.length n3] : Array Value)[j]? := by
    intro j
    obtain ⟨X, hX⟩ : ∃ X, X = w.alloc (.cells #[.slice (some ⟨w.heap.size + 1, 0, none⟩) 1 1] 24 (0, 0)) := ⟨_, rfl⟩
    rw [← hX] at zs ⊢
    rw [← zs, World.cell?_alloc_mark]
  have P : Hid (Ptc ((w.alloc (.cells #[.slice (some ⟨w.heap.size + 1, 0, none⟩) 1 1] 24 (0, 0))).alloc (.cells #[.int .i64 z, .slice o1 l.length o3, .slice n1 m.length n3] 58 (0, 0))) (some ⟨w.heap.size + 1, 0, none⟩) [⟨z, l, m⟩]) := Lib.hid (by
    refine ⟨(fun h => by cases h), fun _ => ⟨_, _, rfl, by rw [World.size_alloc, zs]; omega, fun i hi => ?_⟩⟩
    obtain rfl : i = 0 := by simp at hi; omega
    refine ⟨(o1, l.length, o3), (n1, m.length, n3), ?_, ?_, ?_, HO.out.mono B, HN.out.mono B⟩
    · rw [K]; rfl
    · rw [K]; rfl
    · rw [K]; rfl)
  have c0 : ((w.alloc (.cells #[.slice (some ⟨w.heap.size + 1, 0, none⟩) 1 1] 24 (0, 0))).alloc (.cells #[.int .i64 z, .slice o1 l.length o3, .slice n1 m.length n3] 58 (0, 0))).cell? ⟨w.heap.size, 0, none⟩ = some (.slice (some ⟨w.heap.size + 1, 0, none⟩) 1 1) := cell_up (by rw [World.cell?_alloc_mark]; rfl) _
  go_wp2_with fail
  refine bodyPost_ret (v := .agg #[.slice (some ⟨w.heap.size + 1, 0, none⟩) 1 1]) (by simp [results, Try.results44, go_sem]) rfl ⟨_, rfl, P.out, by simp, B⟩
end Go.Proofs.Ytolpbeemeignaaa
