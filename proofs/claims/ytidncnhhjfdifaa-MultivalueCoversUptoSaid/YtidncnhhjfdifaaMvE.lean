
/-
  Package multivalue: leastCover, walked.
-/
import Derived.Test.YtidncnhhjfdifaaMvD
import Derived.Test.YtidncnhhjfdifaaMvN
import Derived.Laws.MakeOwn
namespace Go.Proofs.Ytidncnhhjfdifaa
open Go.RowKit
set_option maxRecDepth 4000

/-- a block of numbers of the call's own -/
structure CB (w : World) (g : Nat) (C : List Int) : Prop where
  cell : ∀ i (hi : i < C.length), w.cell? ⟨g, i, none⟩ = some (.int .i64 C[i])
  froz : ∀ i, i < C.length → w.frozen? ⟨g, i, none⟩ = false
  lt : g < w.heap.size
theorem CB.up {w w' : World} {g : Nat} {C : List Int} (h : CB w g C) (hb : Below w.heap.size w w') : CB w' g C :=
  ⟨fun i hi => (hb.cell (p := ⟨g, i, none⟩) h.lt).trans (h.cell i hi), fun i hi => (hb.frozen (p := ⟨g, i, none⟩) h.lt).trans (h.froz i hi), Nat.lt_of_lt_of_le h.lt hb.size⟩
theorem CB.set {w : World} {g : Nat} {C : List Int} (h : CB w g C) (i : Nat) (hi : i < C.length) (n : Int) : CB (w.setCell ⟨g, i, none⟩ (.int .i64 n)) g (C.set i n) := by
  refine ⟨fun j hj => ?_, fun j hj => ?_, by rw [World.size_setCell]; exact h.lt⟩
  · rw [List.length_set] at hj
    by_cases e : i = j
    · subst e
      rw [World.cell?_setCell_same (h := h.cell i hi)]
      simp
    · rw [World.cell?_setCell_other (h := fun e' => e (by cases e'; rfl)), h.cell j hj, List.getElem_set_ne e]
  · rw [List.length_set] at hj
    rw [World.frozen?_setCell]; exact h.froz j hj
theorem CB.row {w : World} {g : Nat} {C : List Int} (h : CB w g C) : Row nE w (some ⟨g, 0, none⟩) C := by
  refine ⟨(fun e => by cases e), fun _ => ⟨g, 0, rfl, h.lt, fun i hi k u hu => ?_⟩⟩
  simp only [nE] at hu ⊢
  match k, hu with
  | 0, hu =>
    rw [Nat.mul_one, Nat.add_zero, Nat.zero_add, h.cell i hi]
    simpa using hu
namespace Mv
/-- the cover while a vector is taken up: its first i numbers are -/
def mix (c v : List Int) (i : Nat) : List Int := (List.zipWith max c v).take i ++ c.drop i
theorem mix_zero (c v : List Int) : mix c v 0 = c := by simp [mix]
theorem mix_len {c v : List Int} (hc : c.length = 6) (hv : v.length = 6) {i : Nat} (hi : i ≤ 6) : (mix c v i).length = 6 := by
  unfold mix; rw [List.length_append, List.length_take, List.length_drop, zw_len hc hv, hc]; omega
theorem mix_all {c v : List Int} (hc : c.length = 6) (hv : v.length = 6) : mix c v 6 = List.zipWith max c v := by
  unfold mix
  rw [List.drop_eq_nil_of_le (by omega), List.append_nil, List.take_of_length_le (by rw [zw_len hc hv]; omega)]
theorem mix_get {c v : List Int} (hc : c.length = 6) (hv : v.length = 6) {i : Nat} (hi : i < 6) : (mix c v i)[i]'(by rw [mix_len hc hv (by omega)]; exact hi) = c[i]'(by omega) := by
  unfold mix
  rw [List.getElem_append_right (by rw [List.length_take, zw_len hc hv]; omega)]
  rw [List.getElem_drop]
  congr 1
  rw [List.length_take, zw_len hc hv]; omega
theorem mix_next {c v : List Int} (hc : c.length = 6) (hv : v.length = 6) {i : Nat} (hi : i < 6) : (mix c v i).set i (max (c[i]'(by omega)) (v[i]'(by omega))) = mix c v (i + 1) := by
  have hz : i < (List.zipWith max c v).length := by rw [zw_len hc hv]; exact hi
  have ht : ((List.zipWith max c v).take i).length = i := by rw [List.length_take]; omega
  unfold mix
  rw [List.set_append_right _ _ (by omega), ht, Nat.sub_self, List.drop_eq_getElem_cons (by omega : i < c.length), List.set_cons_zero, List.take_succ_eq_append_getElem hz, List.getElem_zipWith, List.append_assoc]
  rfl
theorem cvF_take {l : List V} {k : Nat} (h : k < l.length) (c : List Int) : cvF c (l.take (k + 1)) = List.zipWith max (cvF c (l.take k)) l[k].vec := by
  unfold cvF
  rw [List.take_succ_eq_append_getElem h, List.foldl_append]; rfl
end Mv
theorem if_max (a b : Int) : (if a < b then b else a) = max a b := by omega
theorem make6 (w : World) : (Instr.makeSlice 33 (.int .i64 6) (.int .i64 6)).run Try.prog w = .ok (.slice (some ⟨w.heap.size, 0, none⟩) 6 6) (w.alloc (.cells #[.int .i64 0, .int .i64 0, .int .i64 0, .int .i64 0, .int .i64 0, .int .i64 0] 3)) := by
  obtain ⟨i0, hi, hz0, hz1, hz2⟩ := info_parts nE.inf
  have := run_make (P := Try.prog) w 33 3 i0 (.int .i64 0) Try.underlying33 hi hz0 .i64 .i64 6 6 (by omega) (by omega) (by rw [hz2]; decide) (by omega)
  have e : madeCells (Value.int .i64 0).cells (Int.toNat 6 * nE.size) = #[.int .i64 0, .int .i64 0, .int .i64 0, .int .i64 0, .int .i64 0, .int .i64 0] := by kernel_rfl
  rw [this, hz1, show ((.int .i64 0 : Value)).cells = (Value.int .i64 0).cells from rfl, e]
  rfl
theorem CB.six (w : World) (t : TypeId) : CB (w.alloc (.cells #[.int .i64 0, .int .i64 0, .int .i64 0, .int .i64 0, .int .i64 0, .int .i64 0] t)) w.heap.size Mv.zeros := by
  refine ⟨fun i hi => ?_, fun i hi => ?_, by rw [World.size_alloc]; omega⟩
  · rw [World.cell?_alloc_mark]
    match i, hi with
    | 0, _ | 1, _ | 2, _ | 3, _ | 4, _ | 5, _ => rfl
    | i + 6, hi => exact absurd hi (by simp [Mv.zeros])
  · rw [World.frozen?_alloc_mark]
    match i, hi with
    | 0, _ | 1, _ | 2, _ | 3, _ | 4, _ | 5, _ => rfl
    | i + 6, hi => exact absurd hi (by simp [Mv.zeros])
set_option maxRecDepth 100000 in
set_option maxHeartbeats 4000000 in
theorem leastCover_any (p : Option Addr) (rs : List Mv.R) (cap : Nat) (w : World) (hp : Vs w p rs) (hl : rs.length ≤ 100) (h6 : ∀ r ∈ rs, r.vec.length = 6) :
    Calls Try.prog 37 #[.slice p rs.length cap] w (fun e w' => e = .returned (.slice (some ⟨w.heap.size, 0, none⟩) 6 6) ∧ CB w' w.heap.size (Mv.cvr (Mv.vs rs)) ∧ Below w.heap.size w w') := by
  have HP := Lib.hid hp
  have H6 := Lib.hid h6
  have MK := make6
  have C0 := Lib.hid (CB.six w 3)
  have B0 := Lib.hid (up_alloc (Below.refl w.heap.size w) (.cells #[.int .i64 0, .int .i64 0, .int .i64 0, .int .i64 0, .int .i64 0, .int .i64 0] 3))
  clear hp h6
  go_enter Try.func37, Try.ntmps37
  go_wp2_with fail
  clear MK
  go_loopw [11] (fun iv wr => ∃ k : Nat, k ≤ rs.length ∧ iv = .int .i64 k ∧ Hid (CB wr w.heap.size (Mv.cvF Mv.zeros (Mv.vs (rs.take k)))) ∧ Hid (Below w.heap.size w wr)) (fun iv _ => rs.length - (intOf iv).toNat)
  case atStart => exact ⟨0, Nat.zero_le _, rfl, C0, B0⟩
  case round =>
    as_aux_lemma =>
    obtain ⟨k, hk, rfl, hC, hB⟩ := hrel
    have b0 : (0 : Int) ≤ (k : Int) := by omega
    by_cases hlt : k < rs.length
    · have g1 : decide ((k : Int) < (rs.length : Int)) = true := decide_eq_true (by omega)
      have g1' : decide (k < rs.length) = true := decide_eq_true hlt
      have b1 : (k : Int) < (rs.length : Int) := by omega
      obtain ⟨b, off, rfl, hb, c0, c1, -⟩ := (HP.out.mono hB.out).cell hlt
      have hr := HP.out.vec _ (List.getElem_mem hlt)
      have NX := Lib.hid (Mv.cvF_take (l := Mv.vs rs) (k := k) (by rw [Mv.vs_len]; exact hlt) Mv.zeros)
      rw [Mv.vs_get hlt, Mv.vs_take, Mv.vs_take] at NX
      have hv6 := H6.out _ (List.getElem_mem hlt)
      have hc6 := (Mv.cvF_facts (Mv.vs (rs.take k)) Mv.zeros rfl (fun v hv => by
        obtain ⟨r, hr, rfl⟩ := List.mem_map.1 hv
        exact H6.out r (List.mem_of_mem_take hr))).1
      have HLT := Lib.hid hlt
      obtain ⟨v, hx⟩ : ∃ x, x = rs[k]'hlt := ⟨_, rfl⟩
      rw [← hx] at c0 c1 hr NX hv6
      clear hx
      have U2 := boxV_up wr v
      have VB2 := VB.new wr v
      obtain ⟨x, xp, xc, xv⟩ := v
      unfold boxV at U2 VB2
      dsimp only [Mv.R.v] at U2 VB2 c0 c1 hr NX hv6
      rw [hv6] at c1 U2 VB2
      obtain ⟨y0, y1, hg⟩ := VB2
      dsimp only at y0 y1
      rw [hv6] at y1
      generalize Mv.cvF Mv.zeros (Mv.vs (rs.take k)) = C at hC NX hc6
      have CW := Lib.hid (hC.out.up U2)
      have RW := Lib.hid hr
      have BW := Lib.hid (hB.out.trans (U2.mono hB.out.size))
      have V6 := Lib.hid hv6
      have C6 := Lib.hid hc6
      clear hr U2 hv6 hc6
      go_wp2_with fail
      rename_i hKK
      have HK := Lib.hid hKK
      clear hKK
      generalize wr.alloc (.cells #[.int .i64 x, .slice xp 6 xc] 35 (0, 0)) = W at CW RW BW y0 y1 hg ⊢
      go_loopw [18] (fun iv wq => ∃ i : Nat, i ≤ 6 ∧ iv = .int .i64 i ∧ Hid (CB wq w.heap.size (Mv.mix C xv i)) ∧ Hid (Below w.heap.size W wq)) (fun iv _ => 6 - (intOf iv).toNat)
      case atStart => exact ⟨0, Nat.zero_le _, rfl, Lib.hid (by rw [Mv.mix_zero]; exact CW.out), Lib.hid (Below.refl _ _)⟩
      case round =>
        as_aux_lemma =>
        obtain ⟨i, hi, rfl, hM, hD⟩ := hrel
        have b2 : (0 : Int) ≤ (i : Int) := by omega
        clear y0 y1 hg c0 c1
        by_cases hi6 : i < 6
        · have g2 : decide ((i : Int) < 6) = true := decide_eq_true (by omega)
          have g2' : decide (i < 6) = true := decide_eq_true hi6
          have b3 : (i : Int) < 6 := by omega
          have ml := Mv.mix_len C6.out V6.out hi
          obtain ⟨bx, ox, rfl, -, hcx⟩ := (RW.out.mono (BW.out.trans hD.out)).nat (k := i) (by rw [V6.out]; exact hi6)
          have hcc := hM.out.cell i (by rw [ml]; exact hi6)
          rw [Mv.mix_get C6.out V6.out hi6] at hcc
          have hff := hM.out.froz i (by rw [ml]; exact hi6)
          have NC := Lib.hid (hM.out.set i (by rw [ml]; exact hi6) (max (C[i]'(by rw [C6.out]; exact hi6)) (xv[i]'(by rw [V6.out]; exact hi6))))
          rw [Mv.mix_next C6.out V6.out hi6, ← if_max] at NC
          have hgz : w.heap.size ≤ (⟨w.heap.size, i, none⟩ : Addr).block := Nat.le_refl _
          have ND := Lib.hid (fun v => hD.out.setCell hgz v)
          have HI := Lib.hid hi6
          obtain ⟨z, hz⟩ : ∃ z, z = C[i]'(by rw [C6.out]; exact hi6) := ⟨_, rfl⟩
          obtain ⟨y, hy⟩ : ∃ y, y = xv[i]'(by rw [V6.out]; exact hi6) := ⟨_, rfl⟩
          rw [← hz] at hcc NC
          rw [← hy] at hcx NC
          clear hz hy ml hgz
          go_wp2_with fail
          go_roundw
          case rel => exact ⟨i + 1, HI.out, by go_num, NC, Lib.hid (ND.out _)⟩
          case measure => simp [intOf]; omega
        · have g2 : decide ((i : Int) < 6) = false := decide_eq_false (by omega)
          have g2' : decide (i < 6) = false := decide_eq_false hi6
          obtain rfl : i = 6 := by omega
          have CN : Hid (CB wr w.heap.size (Mv.cvF Mv.zeros (Mv.vs (rs.take (k + 1))))) := Lib.hid (by rw [NX.out, ← Mv.mix_all C6.out V6.out]; exact hM.out)
          have BN := Lib.hid (BW.out.trans hD.out)
          go_wp2_with fail
          refine HK.out _ _ ?_
          clear HK
          go_wp2_with fail
          go_roundw
          case rel => exact ⟨k + 1, HLT.out, by go_num, CN, BN⟩
          case measure => simp [intOf]; omega
    · have g1 : decide ((k : Int) < (rs.length : Int)) = false := decide_eq_false (by omega)
      have g1' : decide (k < rs.length) = false := decide_eq_false hlt
      obtain rfl : k = rs.length := by omega
      rw [List.take_length] at hC
      go_wp2_with fail
      go_ret
      exact ⟨rfl, hC.out, hB.out⟩
end Go.Proofs.Ytidncnhhjfdifaa
