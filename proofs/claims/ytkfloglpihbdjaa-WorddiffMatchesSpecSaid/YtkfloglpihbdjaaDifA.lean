
/-
  The reference's Align, walked.
-/
import Derived.Test.YtkfloglpihbdjaaDifM
import Derived.Test.YtkfloglpihbdjaaOwn
namespace Go.Proofs.Ytkfloglpihbdjaa
open Go.RowKit
set_option maxRecDepth 4000

/-- a step of an alignment -/
def stE : Enc (Nat × ByteArray) where
  ty := 59
  sl := 55
  size := 2
  bytes := 24
  z := .agg #[.int .i64 0, .string ByteArray.empty]
  enc s := [.int .i64 (s.1 : Int), .string s.2]
  len _ := rfl
  one _ u h := by
    rcases List.mem_cons.1 h with rfl | h
    · rfl
    · rw [List.mem_singleton.1 h]; rfl
  pos := by decide
  zs := rfl
  und := Try.underlying55
  inf := by kernel_rfl
theorem OwnE.drewN {α : Type} {e : Enc α} {base : Nat} {w : World} {v : Value} {l : List α} (h : OwnE e base w v l) (n : Nat) : OwnE e base (w.drewN n) v l := h
theorem OwnE.alloc {α : Type} {e : Enc α} {base : Nat} {w : World} {v : Value} {l : List α} (h : OwnE e base w v l) (o : Obj) : OwnE e base (w.alloc o) v l := World.ownsRow.alloc h o
theorem OwnE.le {α : Type} {e : Enc α} {base base' : Nat} {w : World} {v : Value} {l : List α} (h : OwnE e base w v l) (hb : base' ≤ base) : OwnE e base' w v l := by
  obtain ⟨h1, h2 | ⟨g, cap, cur, h3, h4, h5⟩⟩ := h
  · exact ⟨h1, .inl h2⟩
  · exact ⟨h1, .inr ⟨g, cap, cur, h3, by omega, h5⟩⟩
theorem st_one (w : World) (n : Nat) (z : Int) (hz : z = (n : Int)) (s : ByteArray) (t : TypeId) (k : Nat) (u : Value) (h : (stE.enc (n, s))[k]? = some u) : (w.alloc (.cells #[.int .i64 z, .string s] t (0, 0))).cell? ((⟨w.heap.size, 0, none⟩ : Addr).add k) = some u := by
  subst hz
  rw [add_at, Nat.zero_add, World.cell?_alloc_mark]
  simp only [stE] at h
  match k, h with
  | 0, h => simpa using h
  | 1, h => simpa using h
  | k + 2, h => simp at h
/-- the alignment on its way -/
structure AAt (a b : List ByteArray) (i j : Nat) (out : List (Nat × ByteArray)) : Prop where
  hi : i ≤ a.length
  hj : j ≤ b.length
  eq : out ++ Dif.al (a.drop i) (b.drop j) = Dif.al a b
  len : out.length ≤ i + j
theorem AAt.start (a b : List ByteArray) : AAt a b 0 0 [] := ⟨Nat.zero_le _, Nat.zero_le _, rfl, Nat.le_refl _⟩
theorem AAt.keep {a b : List ByteArray} {i j : Nat} {out : List (Nat × ByteArray)} (h : AAt a b i j out) (hi : i < a.length) (hj : j < b.length) (he : a[i] = b[j]) : AAt a b (i + 1) (j + 1) (out ++ [(0, a[i])]) :=
  ⟨hi, hj, by rw [← h.eq, Dif.al_keep a b i j hi hj he, List.append_assoc]; rfl, by have := h.len; rw [List.length_append]; simp; omega⟩
theorem AAt.del {a b : List ByteArray} {i j : Nat} {out : List (Nat × ByteArray)} (h : AAt a b i j out) (hi : i < a.length) (he : ∀ hj : j < b.length, a[i] ≠ b[j] ∧ tv a b i (j + 1) ≤ tv a b (i + 1) j) : AAt a b (i + 1) j (out ++ [(1, a[i])]) :=
  ⟨hi, h.hj, by rw [← h.eq, Dif.al_del a b i j hi he, List.append_assoc]; rfl, by have := h.len; rw [List.length_append]; simp; omega⟩
theorem AAt.ins {a b : List ByteArray} {i j : Nat} {out : List (Nat × ByteArray)} (h : AAt a b i j out) (hj : j < b.length) (he : ∀ hi : i < a.length, a[i] ≠ b[j] ∧ ¬ tv a b i (j + 1) ≤ tv a b (i + 1) j) : AAt a b i (j + 1) (out ++ [(2, b[j])]) :=
  ⟨h.hi, hj, by rw [← h.eq, Dif.al_ins a b i j hj he, List.append_assoc]; rfl, by have := h.len; rw [List.length_append]; simp; omega⟩
theorem AAt.done {a b : List ByteArray} {i j : Nat} {out : List (Nat × ByteArray)} (h : AAt a b i j out) (hi : a.length ≤ i) (hj : b.length ≤ j) : out = Dif.al a b := by
  rw [← h.eq, Dif.al_end a b i j hi hj, List.append_nil]

def AlPost (l : List (Nat × ByteArray)) (w : World) (e : Ending) (w' : World) : Prop := ∃ v, e = .returned v ∧ OwnE stE w.heap.size w' v l ∧ Below w.heap.size w w'
set_option maxRecDepth 100000 in
set_option maxHeartbeats 4000000 in
theorem align_any (p q : Option Addr) (a b : List ByteArray) (n m cap cap' : Nat) (w : World) (hn : n = a.length) (hm : m = b.length) (hp : Sts w p a) (hq : Sts w q b) (ha : a.length ≤ 1000000) (hb : b.length ≤ 1000000) :
    Calls Try.prog 27 #[.slice p n cap, .slice q m cap'] w (AlPost (Dif.al a b) w) := by
  subst hn hm
  have HP := Lib.hid hp
  have HQ := Lib.hid hq
  go_enter Try.func27, Try.ntmps27
  go_wp2_with fail
  refine (suffixes_any p q a b _ _ _ _ _ rfl rfl hp hq ha hb).mono ?_
  rintro e w1 ⟨g, rfl, tab, hg, hb1⟩
  have TB := Lib.hid tab
  have HB1 := Lib.hid hb1
  clear hp hq tab hb1
  go_wp2_with fail
  go_loopw [6, 7, 8] (fun o i j wr => ∃ (x y : Nat) (out : List (Nat × ByteArray)), i = .int .i64 x ∧ j = .int .i64 y ∧ Hid (OwnE stE w1.heap.size wr o out) ∧ Hid (AAt a b x y out) ∧ Hid (Below w1.heap.size w1 wr)) (fun _ i j _ => a.length + b.length - (intOf i).toNat - (intOf j).toNat)
  case atStart => exact ⟨0, 0, [], rfl, rfl, Lib.hid (ownE_nil _ _ _), Lib.hid (AAt.start _ _), Lib.hid (Below.refl _ _)⟩
  case round =>
    obtain ⟨i, j, out, rfl, rfl, own, hA, hbel⟩ := hrel
    have hi := hA.out.hi
    have hj := hA.out.hj
    have hol := hA.out.len
    have hzr := hbel.out.size
    by_cases hi' : i < a.length
    · obtain ⟨bp, op, rfl, hbp, cx⟩ := HP.out.cell hi'
      have h1 : wr.cell? ⟨bp, op + i, none⟩ = some (.string a[i]) := by
        rw [hbel.out.cell (p := ⟨bp, op + i, none⟩) (Nat.lt_of_lt_of_le hbp HB1.out.size), HB1.out.cell (p := ⟨bp, op + i, none⟩) hbp, cx]
      have i1 : decide (i < a.length) = true := by simpa using hi'
      have b1 : (0 : Int) ≤ (i : Int) := by omega
      have b2 : (i : Int) < (a.length : Int) := by omega
      by_cases hj' : j < b.length
      · obtain ⟨bq, oq, rfl, hbq, cy⟩ := HQ.out.cell hj'
        have h2 : wr.cell? ⟨bq, oq + j, none⟩ = some (.string b[j]) := by
          rw [hbel.out.cell (p := ⟨bq, oq + j, none⟩) (Nat.lt_of_lt_of_le hbq HB1.out.size), HB1.out.cell (p := ⟨bq, oq + j, none⟩) hbq, cy]
        have j1 : decide (j < b.length) = true := by simpa using hj'
        have b3 : (0 : Int) ≤ (j : Int) := by omega
        have b4 : (j : Int) < (b.length : Int) := by omega
        by_cases he : a[i] = b[j]
        · have hA' := Lib.hid (hA.out.keep hi' hj' he)
          obtain ⟨x, hx⟩ : ∃ x, x = a[i] := ⟨_, rfl⟩
          rw [← he] at h2
          rw [← hx] at h1 h2 hA'
          have H := Lib.hid he
          clear he hx cx cy
          go_wp2_with fail
          go_quiet (fail)
          go_wp2_with (at_builtin; refine wp_appE stE rfl (.tmp 43) (.tmp 49) rfl w1.heap.size _ out (0, x) _ _ rfl ((own.out.drewN _).alloc _) rfl (st_one _ 0 0 rfl x _) (by simp [stE]; omega) (by omega) (by simp; omega) ?_; intro v2 w2 own2 bel2)
          go_roundw
          case rel => exact ⟨i + 1, j + 1, out ++ [(0, x)], by go_num, by go_num, Lib.hid own2, hA', Lib.hid (up_own (up_alloc (below_drewN hbel.out _) _) bel2)⟩
          case measure => first | (simp [intOf]; done) | (simp [intOf]; omega)
        · obtain ⟨q1, c1, hq1, cc1⟩ := TB.out.col (k := j + 1) (by omega)
          obtain ⟨q0, c0, hq0, cc0⟩ := TB.out.col (k := j) (by omega)
          have hg2 := TB.out.lt
          have k1 : wr.cell? ⟨g, j + 1, none⟩ = some (.slice (some ⟨q1, 0, none⟩) (a.length + 1) (a.length + 1)) := by rw [hbel.out.cell (p := ⟨g, j + 1, none⟩) hg2, c1]
          have k0 : wr.cell? ⟨g, j, none⟩ = some (.slice (some ⟨q0, 0, none⟩) (a.length + 1) (a.length + 1)) := by rw [hbel.out.cell (p := ⟨g, j, none⟩) hg2, c0]
          have m1 : wr.cell? ⟨q1, i, none⟩ = some (.int .i64 (tv a b i (j + 1) : Nat)) := by rw [hbel.out.cell (p := ⟨q1, i, none⟩) hq1, cc1 i (by omega)]
          have m0 : wr.cell? ⟨q0, i + 1, none⟩ = some (.int .i64 (tv a b (i + 1) j : Nat)) := by rw [hbel.out.cell (p := ⟨q0, i + 1, none⟩) hq0, cc0 (i + 1) (by omega)]
          have j2 : ((j : Int) == (b.length : Int)) = false := by rw [beq_eq_false_iff_ne]; omega
          clear c1 c0 cc1 cc0 hq1 hq0 hg2
          have hD := fun h => (Lib.hid (hA.out.del hi' (fun _ => ⟨he, h⟩)) : Hid (AAt a b (i + 1) j (out ++ [(1, a[i])])))
          have hI := fun h => (Lib.hid (hA.out.ins hj' (fun _ => ⟨he, h⟩)) : Hid (AAt a b i (j + 1) (out ++ [(2, b[j])])))
          have e1 := tl_false he
          obtain ⟨x, hx⟩ : ∃ x, x = a[i] := ⟨_, rfl⟩
          obtain ⟨y, hy⟩ : ∃ y, y = b[j] := ⟨_, rfl⟩
          obtain ⟨p1, hp1⟩ : ∃ p1, p1 = tv a b i (j + 1) := ⟨_, rfl⟩
          obtain ⟨p2, hp2⟩ : ∃ p2, p2 = tv a b (i + 1) j := ⟨_, rfl⟩
          rw [← hx] at h1 hD e1
          rw [← hy] at h2 hI e1
          rw [← hp1] at m1 hD hI
          rw [← hp2] at m0 hD hI
          clear hx hy hp1 hp2 he cx cy
          by_cases hle : p1 ≤ p2
          · have g1 : decide (p1 ≤ p2) = true := by simpa using hle
            have hA' := hD hle
            clear hD hI hle
            go_wp2_with fail
            go_quiet (fail)
            go_wp2_with fail
            go_quiet (fail)
            go_wp2_with (at_builtin; refine wp_appE stE rfl (.tmp 84) (.tmp 90) rfl w1.heap.size _ out (1, x) _ _ rfl ((own.out.drewN _).alloc _) rfl (st_one _ 1 1 rfl x _) (by simp [stE]; omega) (by omega) (by simp; omega) ?_; intro v2 w2 own2 bel2)
            go_roundw
            case rel => exact ⟨i + 1, j, out ++ [(1, x)], by go_num, by go_num, Lib.hid own2, hA', Lib.hid (up_own (up_alloc (below_drewN hbel.out _) _) bel2)⟩
            case measure => first | (simp [intOf]; done) | (simp [intOf]; omega)
          · have g1 : decide (p1 ≤ p2) = false := by simpa using hle
            have hA' := hI hle
            clear hD hI hle
            go_wp2_with fail
            go_quiet (fail)
            go_wp2_with fail
            go_quiet (fail)
            go_wp2_with (at_builtin; refine wp_appE stE rfl (.tmp 94) (.tmp 100) rfl w1.heap.size _ out (2, y) _ _ rfl ((own.out.drewN _).alloc _) rfl (st_one _ 2 2 rfl y _) (by simp [stE]; omega) (by omega) (by simp; omega) ?_; intro v2 w2 own2 bel2)
            go_roundw
            case rel => exact ⟨i, j + 1, out ++ [(2, y)], by go_num, by go_num, Lib.hid own2, hA', Lib.hid (up_own (up_alloc (below_drewN hbel.out _) _) bel2)⟩
            case measure => first | (simp [intOf]; done) | (simp [intOf]; omega)
      · have j1 : decide (j < b.length) = false := by simpa using hj'
        have j2 : ((j : Int) == (b.length : Int)) = true := by rw [beq_iff_eq]; omega
        have hA' := Lib.hid (hA.out.del hi' (fun h => (hj' h).elim))
        obtain ⟨x, hx⟩ : ∃ x, x = a[i] := ⟨_, rfl⟩
        rw [← hx] at h1 hA'
        clear hx cx
        go_wp2_with fail
        go_quiet (fail)
        go_wp2_with fail
        go_quiet (fail)
        go_wp2_with (at_builtin; refine wp_appE stE rfl (.tmp 84) (.tmp 90) rfl w1.heap.size _ out (1, x) _ _ rfl ((own.out.drewN _).alloc _) rfl (st_one _ 1 1 rfl x _) (by simp [stE]; omega) (by omega) (by simp; omega) ?_; intro v2 w2 own2 bel2)
        go_roundw
        case rel => exact ⟨i + 1, j, out ++ [(1, x)], by go_num, by go_num, Lib.hid own2, hA', Lib.hid (up_own (up_alloc (below_drewN hbel.out _) _) bel2)⟩
        case measure => first | (simp [intOf]; done) | (simp [intOf]; omega)
    · have i1 : decide (i < a.length) = false := by simpa using hi'
      by_cases hj' : j < b.length
      · obtain ⟨bq, oq, rfl, hbq, cy⟩ := HQ.out.cell hj'
        have h2 : wr.cell? ⟨bq, oq + j, none⟩ = some (.string b[j]) := by
          rw [hbel.out.cell (p := ⟨bq, oq + j, none⟩) (Nat.lt_of_lt_of_le hbq HB1.out.size), HB1.out.cell (p := ⟨bq, oq + j, none⟩) hbq, cy]
        have j1 : decide (j < b.length) = true := by simpa using hj'
        have j2 : ((j : Int) == (b.length : Int)) = false := by rw [beq_eq_false_iff_ne]; omega
        have b3 : (0 : Int) ≤ (j : Int) := by omega
        have b4 : (j : Int) < (b.length : Int) := by omega
        have hA' := Lib.hid (hA.out.ins hj' (fun h => (hi' h).elim))
        obtain ⟨y, hy⟩ : ∃ y, y = b[j] := ⟨_, rfl⟩
        rw [← hy] at h2 hA'
        clear hy cy
        go_wp2_with fail
        go_quiet (fail)
        go_wp2_with fail
        go_quiet (fail)
        go_wp2_with (at_builtin; refine wp_appE stE rfl (.tmp 94) (.tmp 100) rfl w1.heap.size _ out (2, y) _ _ rfl ((own.out.drewN _).alloc _) rfl (st_one _ 2 2 rfl y _) (by simp [stE]; omega) (by omega) (by simp; omega) ?_; intro v2 w2 own2 bel2)
        go_roundw
        case rel => exact ⟨i, j + 1, out ++ [(2, y)], by go_num, by go_num, Lib.hid own2, hA', Lib.hid (up_own (up_alloc (below_drewN hbel.out _) _) bel2)⟩
        case measure => first | (simp [intOf]; done) | (simp [intOf]; omega)
      · have j1 : decide (j < b.length) = false := by simpa using hj'
        have hd := hA.out.done (by omega) (by omega)
        go_wp2_with fail
        go_ret
        exact ⟨_, rfl, by rw [← hd]; exact own.out.le HB1.out.size, up_call HB1.out hbel.out⟩
end Go.Proofs.Ytkfloglpihbdjaa
