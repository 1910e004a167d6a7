
/-
  The laws' split, together and rest, walked.
-/
import Derived.Test.YtkfloglpihbdjaaWdB
namespace Go.Proofs.Ytkfloglpihbdjaa
open Go.RowKit
set_option maxRecDepth 4000

theorem mk_app (a b : List UInt8) : Lin.mk a ++ Lin.mk b = Lin.mk (a ++ b) := by
  rw [← Lin.mk_of (Lin.mk a ++ Lin.mk b)]
  congr 1
theorem mk_nil : (⟨#[]⟩ : ByteArray) = Lin.mk [] := rfl

set_option maxHeartbeats 4000000 in
theorem ltogether_any (p : Option Addr) (l : List ByteArray) (n cap : Nat) (w : World) (hn : n = l.length) (hp : Sts w p l) (hT : (Wd.jo l).length ≤ 1000000) :
    Calls Try.prog 17 #[.slice p n cap] w fun e w' => e = .returned (.string (Lin.mk (Wd.jo l))) ∧ w' = w := by
  subst hn
  have HP := Lib.hid hp
  have hl := hp.len
  clear hp
  go_enter Try.func17, Try.ntmps17
  go_wp2_with fail
  go_loop [3, 4] (fun o i => ∃ k : Nat, k ≤ l.length ∧ i = .int .i64 k ∧ o = .string (Lin.mk (Wd.jo (l.take k)))) (fun _ i => l.length - (intOf i).toNat)
  case atStart => exact ⟨0, Nat.zero_le _, rfl, rfl⟩
  case round =>
    obtain ⟨k, hk, rfl, rfl⟩ := hrel
    by_cases hlt : k < l.length
    · have b7 : (0 : Int) ≤ (k : Int) := by omega
      have b8 : (k : Int) < (l.length : Int) := by omega
      obtain ⟨b, off, rfl, hb, hc⟩ := HP.out.cell hlt
      have hx := Lib.hid (show Lin.mk (Wd.jo (l.take (k + 1))) = Lin.mk (Wd.jo (l.take k)) ++ l[k] by rw [List.take_succ_eq_append_getElem hlt, Wd.jo_app, Wd.jo_one, ← mk_app, Lin.mk_of])
      have hpl := pos_le l (k + 1)
      have hpn := pos_next l k hlt
      unfold Wd.pos at hpl hpn
      rw [hpn] at hpl
      have hsz := Lin.mk_size (Wd.jo (l.take k))
      obtain ⟨x, hx'⟩ : ∃ x, x = l[k] := ⟨_, rfl⟩
      rw [← hx'] at hc hx hpl
      obtain ⟨y, hy⟩ : ∃ y, y = Lin.mk (Wd.jo (l.take k)) := ⟨_, rfl⟩
      rw [← hy] at hsz hx ⊢
      clear hx' hy hpn
      go_wp2_with fail
      go_round
      case rel => exact ⟨k + 1, hlt, by go_num, by rw [hx.out]⟩
      case measure => first | (simp [intOf]; done) | (simp [intOf]; omega)
    · obtain rfl : k = l.length := by omega
      go_wp2_with fail
      go_returns
      exact ⟨rfl, rfl⟩

theorem ro_at {n : Nat} {l : List (Nat × Nat)} (s : List UInt8) (h : Wd.Ord n l) (i : Nat) (hi : i < l.length) :
    (Wd.ro s (l.take i)).2 ≤ l[i].1 ∧ (0 < i → (Wd.ro s (l.take i)).2 < l[i].1) ∧ l[i].1 < l[i].2 ∧ l[i].2 ≤ n ∧
    Wd.ro s (l.take (i + 1)) = ((Wd.ro s (l.take i)).1 ++ (s.drop (Wd.ro s (l.take i)).2).take (l[i].1 - (Wd.ro s (l.take i)).2), l[i].2) := by
  have e := h.each l[i] (List.getElem_mem hi)
  have r : Wd.ro s (l.take (i + 1)) = ((Wd.ro s (l.take i)).1 ++ (s.drop (Wd.ro s (l.take i)).2).take (l[i].1 - (Wd.ro s (l.take i)).2), l[i].2) := by
    rw [List.take_succ_eq_append_getElem hi, Wd.ro_snoc]
  cases i with
  | zero => exact ⟨Nat.zero_le _, fun h => by omega, e.1, e.2, r⟩
  | succ j =>
    have hj : j < l.length := by omega
    have p := List.pairwise_iff_getElem.1 h.pw j (j + 1) hj hi (Nat.lt_succ_self _)
    have q : (Wd.ro s (l.take (j + 1))).2 = l[j].2 := by rw [List.take_succ_eq_append_getElem hj, Wd.ro_snoc]
    exact ⟨by rw [q]; omega, fun _ => by rw [q]; exact p, e.1, e.2, r⟩
theorem ro_len {n : Nat} {l : List (Nat × Nat)} (s : List UInt8) (h : Wd.Ord n l) (hs : n = s.length) (i : Nat) (hi : i ≤ l.length) : (Wd.ro s (l.take i)).1.length ≤ s.length ∧ (Wd.ro s (l.take i)).1.length ≤ (Wd.ro s (l.take i)).2 := by
  induction i with
  | zero => exact ⟨Nat.zero_le _, Nat.zero_le _⟩
  | succ i ih =>
    obtain ⟨i1, i2⟩ := ih (by omega)
    obtain ⟨h1, -, h3, h4, h5⟩ := ro_at s h i (by omega)
    rw [h5]
    dsimp only
    rw [List.length_append, List.length_take, List.length_drop]
    omega
/-- what is outside of the ranges -/
def rS (s : ByteArray) (l : List (Nat × Nat)) : ByteArray := Lin.mk ((Wd.ro s.data.toList l).1 ++ s.data.toList.drop (Wd.ro s.data.toList l).2)
theorem pr_cell {w : World} {p : Option Addr} {l : List (Nat × Nat)} (h : Row prE w p l) {i : Nat} (hi : i < l.length) : ∃ b off, p = some ⟨b, off, none⟩ ∧ b < w.heap.size ∧ w.cell? ⟨b, off + i * 2, none⟩ = some (.int .i64 (l[i].1 : Nat)) ∧ w.cell? ⟨b, off + i * 2 + 1, none⟩ = some (.int .i64 (l[i].2 : Nat)) := by
  obtain ⟨b, off, h1, h2, h3⟩ := h.cell hi
  exact ⟨b, off, h1, h2, by have := h3 0 _ rfl; simpa [prE] using this, by have := h3 1 _ rfl; simpa [prE] using this⟩

set_option maxRecDepth 100000 in
set_option maxHeartbeats 8000000 in
theorem rest_any (s : ByteArray) (p : Option Addr) (l : List (Nat × Nat)) (n cap : Nat) (w : World) (hn : n = l.length) (hp : Row prE w p l) (hO : Wd.Ord s.size l) (hs : s.size ≤ 1000000) (hl : l.length ≤ 1000000) :
    Calls Try.prog 18 #[.string s, .slice p n cap] w (QPost (.tuple #[.string (rS s l), .bool true]) w) := by
  subst hn
  have HP := Lib.hid hp
  have HO := Lib.hid hO
  have hd := Wd.dl s
  clear hp hO
  go_enter Try.func18, Try.ntmps18
  go_wp2_with fail
  go_loopw [6, 7, 8] (fun o a i wr => ∃ (k n : Nat), k ≤ l.length ∧ i = .int .i64 k ∧ a = .int .i64 ((Wd.ro s.data.toList (l.take k)).2 : Nat) ∧ o = .string (Lin.mk (Wd.ro s.data.toList (l.take k)).1) ∧ Hid (wr = w.drewN n)) (fun _ _ i _ => l.length - (intOf i).toNat)
  case atStart => exact ⟨0, 0, Nat.zero_le _, rfl, rfl, rfl, Lib.hid rfl⟩
  case round =>
    obtain ⟨k, n, hk, rfl, rfl, rfl, hw⟩ := hrel
    have hlen := ro_len s.data.toList HO.out hd.symm k hk
    by_cases hlt : k < l.length
    · have b7 : (0 : Int) ≤ (k : Int) := by omega
      have b8 : (k : Int) < (l.length : Int) := by omega
      obtain ⟨b, off, rfl, hb, c0, c1⟩ := pr_cell HP.out hlt
      obtain ⟨h1, h2, h3, h4, h5⟩ := ro_at s.data.toList HO.out k hlt
      have hx : Hid (Lin.mk (Wd.ro s.data.toList (l.take (k + 1))).1 = Lin.mk (Wd.ro s.data.toList (l.take k)).1 ++ s.extract (Wd.ro s.data.toList (l.take k)).2 l[k].1 ∧ (Wd.ro s.data.toList (l.take (k + 1))).2 = l[k].2) := Lib.hid ⟨by rw [h5, ext_mk, mk_app], by rw [h5]⟩
      have hy := Lin.mk_size (Wd.ro s.data.toList (l.take k)).1
      obtain ⟨⟨x, y⟩, hxy⟩ : ∃ x, x = l[k] := ⟨_, rfl⟩
      rw [← hxy] at c0 c1 h1 h2 h3 h4 hx
      dsimp only at c0 c1 h1 h2 h3 h4 hx
      obtain ⟨a, ha⟩ : ∃ a, a = (Wd.ro s.data.toList (l.take k)).2 := ⟨_, rfl⟩
      obtain ⟨o, ho⟩ : ∃ a, a = Lin.mk (Wd.ro s.data.toList (l.take k)).1 := ⟨_, rfl⟩
      rw [← ha] at h1 h2 hx hlen ⊢
      rw [← ho] at hx hy ⊢
      have hos : o.size ≤ 1000000 := by omega
      have hes := ext_sz s a x (by omega)
      have HW := Lib.hid hw.out
      have bx : (x : Int) ≤ (s.size : Int) := by omega
      have ba : (a : Int) ≤ (x : Int) := by omega
      replace c0 : wr.cell? ⟨b, off + k * 2, none⟩ = some (.int .i64 (x : Int)) := by rw [HW.out]; exact c0
      replace c1 : wr.cell? ⟨b, off + k * 2 + 1, none⟩ = some (.int .i64 (y : Int)) := by rw [HW.out]; exact c1
      have g1 : decide (x < a) = false := decide_eq_false (by omega)
      have g2 : decide (y ≤ x) = false := decide_eq_false (by omega)
      have g3 : decide (s.size < y) = false := decide_eq_false (by omega)
      have R : Hid (∀ m, wr.drewN m = w.drewN (n + m)) := Lib.hid (fun m => by rw [HW.out, World.drewN_drewN])
      clear hxy ha ho hw h5
      by_cases hk0 : k = 0
      · have g4 : decide (0 < k) = false := decide_eq_false (by omega)
        have hk1 := Lib.hid hk0
        clear hk0 h2
        go_wp2_with fail
        go_quiet (fail)
        go_wp2_with fail
        go_roundw
        case rel => exact ⟨k + 1, _, hlt, by go_num, by rw [hx.out.2], by rw [hx.out.1], Lib.hid (R.out _)⟩
        case measure => first | (simp [intOf]; done) | (simp [intOf]; omega)
      · have g4 : decide (0 < k) = true := decide_eq_true (by omega)
        have hax := h2 (by omega)
        have g5 : ((x : Int) == (a : Int)) = false := by rw [beq_eq_false_iff_ne]; omega
        have g6 : (x == a) = false := by rw [beq_eq_false_iff_ne]; omega
        have g7 : decide (x = a) = false := decide_eq_false (by omega)
        have g8 : decide ((x : Int) = (a : Int)) = false := decide_eq_false (by omega)
        have hk1 := Lib.hid hk0
        clear hk0 h2
        go_wp2_with fail
        go_quiet (fail)
        go_wp2_with fail
        go_roundw
        case rel => exact ⟨k + 1, _, hlt, by go_num, by rw [hx.out.2], by rw [hx.out.1], Lib.hid (R.out _)⟩
        case measure => first | (simp [intOf]; done) | (simp [intOf]; omega)
    · obtain rfl : k = l.length := by omega
      have ha' : (Wd.ro s.data.toList l).2 ≤ s.size := by rw [← hd]; exact Wd.ro_end _ (by rw [hd]; exact HO.out)
      rw [List.take_length] at hlen ⊢
      have HW := Lib.hid hw.out
      have E : Hid (rS s l = Lin.mk (Wd.ro s.data.toList l).1 ++ s.extract (Wd.ro s.data.toList l).2 s.size) := Lib.hid (by
        unfold rS; rw [ext_mk, mk_app, List.take_of_length_le (by rw [List.length_drop]; omega)])
      have hy := Lin.mk_size (Wd.ro s.data.toList l).1
      obtain ⟨a, ha⟩ : ∃ a, a = (Wd.ro s.data.toList l).2 := ⟨_, rfl⟩
      obtain ⟨o, ho⟩ : ∃ a, a = Lin.mk (Wd.ro s.data.toList l).1 := ⟨_, rfl⟩
      rw [← ha] at ha' E ⊢
      rw [← ho] at E hy ⊢
      have hos : o.size ≤ 1000000 := by omega
      have hes := ext_sz s a s.size (Nat.le_refl _)
      have ba : (a : Int) ≤ (s.size : Int) := by omega
      clear ha ho hw
      go_wp2_with fail
      refine bodyPost_ret (v := .tuple #[.string (o ++ s.extract a s.size), .bool true]) (by simp [results, Try.results18, go_sem]) rfl ⟨by rw [E.out], n, HW.out⟩
end Go.Proofs.Ytkfloglpihbdjaa
