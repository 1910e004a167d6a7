/-
  The reference's Distance, Script and Kept, walked.
-/
import Derived.Test.YtpipcgmfjkacgaaDifQ
namespace Go.Proofs.Ytpipcgmfjkacgaa
open Go.RowKit

theorem al_len (a b : List ByteArray) : (Dif.al a b).length ≤ a.length + b.length := by
  fun_induction Dif.al a b <;> simp_all <;> omega
theorem al_mem (a b : List ByteArray) : ∀ x ∈ Dif.al a b, x.2 ∈ a ∨ x.2 ∈ b := by
  fun_induction Dif.al a b
  case case1 => intro x hx; cases hx
  all_goals
    rename_i ih
    intro x hx
    rcases List.mem_cons.1 hx with rfl | hx
    · simp
    · have := ih x hx
      simp at this ⊢
      try grind

/-- the distance of two texts -/
def dist (a b : List ByteArray) : Int := (a.length : Int) + b.length - 2 * (Dif.lcs a b : Nat)
set_option maxHeartbeats 2000000 in
theorem refDistance_any (p q : Option Addr) (a b : List ByteArray) (n m cap cap' : Nat) (w : World) (hn : n = a.length) (hm : m = b.length) (hp : Sts w p a) (hq : Sts w q b) (ha : a.length ≤ 1000000) (hb : b.length ≤ 1000000) :
    Calls Try.prog 12 #[.slice p n cap, .slice q m cap'] w (BPost (.int .i64 (dist a b)) w) := by
  subst hn hm
  go_enter Try.func12, Try.ntmps12
  go_wp2_with fail
  refine (suffixes_any p q a b _ _ _ _ _ rfl rfl hp hq ha hb).mono ?_
  rintro e w1 ⟨g, rfl, tab, hg, hb1⟩
  obtain ⟨q0, c0, hq0, cc0⟩ := tab.col (k := 0) (Nat.zero_le _)
  have c1 := cc0 0 (Nat.zero_le _)
  have hd : tv a b 0 0 = Dif.lcs a b := rfl
  have hl := (Dif.lcs_le a b).1
  rw [hd] at c1
  have E : Hid (dist a b = (a.length : Int) + b.length - 2 * (Dif.lcs a b : Nat)) := Lib.hid rfl
  obtain ⟨d, hd'⟩ : ∃ d, d = Dif.lcs a b := ⟨_, rfl⟩
  rw [← hd'] at c1 hl E
  clear hd hd' cc0 tab hp hq
  go_wp2_with fail
  go_ret
  exact ⟨by rw [E.out]; rfl, hb1⟩

set_option maxHeartbeats 2000000 in
theorem refScript_any (p q : Option Addr) (a b : List ByteArray) (n m cap cap' : Nat) (w : World) (hn : n = a.length) (hm : m = b.length) (hp : Sts w p a) (hq : Sts w q b) (ha : a.length ≤ 1000000) (hb : b.length ≤ 1000000) :
    Calls Try.prog 14 #[.slice p n cap, .slice q m cap'] w (PtPost (Dif.pof (Dif.al a b)) w) := by
  subst hn hm
  have HP := Lib.hid hp
  have HQ := Lib.hid hq
  go_enter Try.func14, Try.ntmps14
  go_wp2_with fail
  have up : Below w.heap.size w (w.alloc (.cells #[.slice none 0 0] 29 (0, 0))) := (Below.refl w.heap.size w).alloc (Nat.le_refl _) _
  refine (align_any p q a b _ _ _ _ _ rfl rfl (hp.mono up) (hq.mono up) ha hb).mono ?_
  rintro e w1 ⟨v, rfl, own, hb1⟩
  obtain ⟨p', cap', rfl, row, -, -, -⟩ := row_of_own own
  have hsm : ∀ x ∈ Dif.al a b, x.2.size ≤ 140737488351232 := fun x hx => by
    rcases al_mem a b x hx with h | h
    · exact hp.small _ h
    · exact hq.small _ h
  have hll := al_len a b
  have F0 := hb1.cell (p := ⟨w.heap.size, 0, none⟩) (by simp)
  have F1 := hb1.frozen (p := ⟨w.heap.size, 0, none⟩) (by simp)
  rw [World.cell?_alloc_mark] at F0
  rw [World.frozen?_alloc_mark] at F1
  have hz1 := hb1.size
  rw [World.size_alloc] at hz1
  have RW := Lib.hid row
  clear own hp hq
  go_wp2_with fail
  refine (patchOf_any p' (Dif.al a b) _ _ w1 rfl RW.out hsm (by omega)).mono ?_
  rintro e w2 ⟨p2, cap2, rfl, hpt, hc0, hc1, hb2⟩
  have G0 : w2.cell? ⟨w.heap.size, 0, none⟩ = some (.slice none 0 0) := by rw [hb2.cell (p := ⟨w.heap.size, 0, none⟩) (by dsimp only; omega), F0]; rfl
  have G1 : w2.frozen? ⟨w.heap.size, 0, none⟩ = false := by rw [hb2.frozen (p := ⟨w.heap.size, 0, none⟩) (by dsimp only; omega), F1]; rfl
  have d0 : (w2.setCell ⟨w.heap.size, 0, none⟩ (.slice p2 (Dif.pof (Dif.al a b)).length cap2)).cell? ⟨w.heap.size, 0, none⟩ = some (.slice p2 (Dif.pof (Dif.al a b)).length cap2) := World.cell?_setCell_same _ _ _ G0
  have R := Lib.hid (And.intro hpt (And.intro hc0 hc1))
  have HB := Lib.hid (up_call (up_call up hb1) hb2)
  clear hpt hc0 hc1 F0 F1
  go_wp2_with fail
  refine bodyPost_ret (v := .agg #[.slice p2 (Dif.pof (Dif.al a b)).length cap2]) (by simp [results, Try.results14, go_sem, d0]) rfl ⟨p2, cap2, rfl, fun W h1 h2 => ?_, R.out.2.1, R.out.2.2, HB.out.setCell (Nat.le_refl _) _⟩
  rw [World.size_setCell] at h1 h2
  refine R.out.1 W h1 fun k hk hk' => ?_
  rw [h2 k (by omega) hk', Below.heap_setCell _ _ _ _ (by dsimp only; omega)]

/-- the kept ones of a list of steps -/
def kept (l : List (Nat × ByteArray)) : List ByteArray := (l.filter (fun s => s.1 == 0)).map (·.2)
theorem kept_next (l : List (Nat × ByteArray)) (k : Nat) (h : k < l.length) : kept (l.take (k + 1)) = kept (l.take k) ++ (if l[k].1 = 0 then [l[k].2] else []) := by
  unfold kept
  rw [List.take_succ_eq_append_getElem h, List.filter_append, List.map_append]
  congr 1
  by_cases e : l[k].1 = 0
  · simp [List.filter, e]
  · have : (l[k].1 == 0) = false := by simpa using e
    rw [if_neg e]; simp [List.filter, this]
theorem kept_len (l : List (Nat × ByteArray)) : (kept l).length ≤ l.length := by
  unfold kept; rw [List.length_map]; exact List.length_filter_le _ _
def KpPost (l : List ByteArray) (w : World) (e : Ending) (w' : World) : Prop := ∃ v, e = .returned v ∧ OwnE strE w.heap.size w' v l ∧ Below w.heap.size w w'
set_option maxHeartbeats 2000000 in
theorem refKept_any (p q : Option Addr) (a b : List ByteArray) (n m cap cap' : Nat) (w : World) (hn : n = a.length) (hm : m = b.length) (hp : Sts w p a) (hq : Sts w q b) (ha : a.length ≤ 1000000) (hb : b.length ≤ 1000000) :
    Calls Try.prog 16 #[.slice p n cap, .slice q m cap'] w (KpPost (Dif.kp a b) w) := by
  subst hn hm
  have AL := align_any p q a b _ _ cap cap' w rfl rfl hp hq ha hb
  have hll := al_len a b
  rw [show Dif.kp a b = kept (Dif.al a b) from rfl]
  obtain ⟨l, hl⟩ : ∃ l, l = Dif.al a b := ⟨_, rfl⟩
  rw [← hl] at AL hll ⊢
  go_enter Try.func16, Try.ntmps16
  go_wp2_with fail
  refine AL.mono ?_
  rintro e w1 ⟨v, rfl, own, hb1⟩
  obtain ⟨p', cp, rfl, row, -, -, -⟩ := row_of_own own
  have RW := Lib.hid row
  have HB1 := Lib.hid hb1
  have hz1 := hb1.size
  clear own hp hq hl row hb1 AL
  go_wp2_with fail
  go_loopw [5, 7] (fun o i wr => ∃ k : Nat, k ≤ l.length ∧ i = .int .i64 k ∧ Hid (OwnE strE w1.heap.size wr o (kept (l.take k))) ∧ Hid (Below w1.heap.size w1 wr)) (fun _ i _ => l.length - (intOf i).toNat)
  case atStart => exact ⟨0, Nat.zero_le _, rfl, Lib.hid (ownE_nil _ _ _), Lib.hid (Below.refl _ _)⟩
  case round =>
    obtain ⟨k, hk, rfl, own, hbel⟩ := hrel
    have hzr := hbel.out.size
    have hkl := kept_len (l.take k)
    rw [List.length_take] at hkl
    by_cases hlt : k < l.length
    · obtain ⟨bb, off, rfl, hbb, hc⟩ := RW.out.cell hlt
      obtain ⟨c0, c1⟩ := row_step hlt hc
      rw [← hbel.out.cell (p := ⟨bb, _, none⟩) hbb] at c0 c1
      have hnx := Lib.hid (kept_next l k hlt)
      obtain ⟨⟨kd, x⟩, hx⟩ : ∃ y, y = l[k] := ⟨_, rfl⟩
      rw [← hx] at c0 c1 hnx
      dsimp only at c0 c1 hnx
      have b7 : (0 : Int) ≤ (k : Int) := by omega
      have b8 : (k : Int) < (l.length : Int) := by omega
      clear hc hx
      by_cases h0 : kd = 0
      · subst h0
        rw [if_pos rfl] at hnx
        go_wp2_with (at_builtin; refine wp_appE strE rfl (.tmp 23) (.tmp 29) rfl w1.heap.size _ (kept (l.take k)) x _ _ rfl (own.out.alloc _) rfl (str_one _ x _) (by simp [strE]; omega) (by omega) (by simp; omega) ?_; intro v2 w2 own2 bel2)
        go_roundw
        case rel => exact ⟨k + 1, hlt, by go_num, Lib.hid (by rw [hnx.out]; exact own2), Lib.hid (up_own (up_alloc hbel.out _) bel2)⟩
        case measure => first | (simp [intOf]; done) | (simp [intOf]; omega)
      · have g0 : ((kd : Int) == 0) = false := by rw [beq_eq_false_iff_ne]; omega
        rw [if_neg h0, List.append_nil] at hnx
        have H := Lib.hid h0
        clear h0
        go_wp2_with fail
        go_roundw
        case rel => exact ⟨k + 1, hlt, by go_num, by rw [hnx.out]; exact own, hbel⟩
        case measure => first | (simp [intOf]; done) | (simp [intOf]; omega)
    · have hend := Lib.hid (List.take_of_length_le (show l.length ≤ k by omega))
      go_wp2_with fail
      go_ret
      refine ⟨_, rfl, ?_, up_call HB1.out hbel.out⟩
      have := own.out.le hz1
      rw [hend.out] at this
      exact this
end Go.Proofs.Ytpipcgmfjkacgaa
