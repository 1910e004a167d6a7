/-
  Package digest: Strings, walked.
-/
import Derived.Test.YtholdclfckkidaaDigC
import Derived.Laws.IdiomStrings
import Derived.BigRegion
namespace Go.Proofs.Ytholdclfckkidaa
open Go.RowKit Go.Lib

theorem bts_new (w : World) (g : Nat) (s : ByteArray) (t : TypeId) (cap : Nat) (m : Nat × Nat) (hg : g = w.heap.size) (hs : s.size ≤ 140737488351232) : Bts (w.alloc (.cells (bytesRow s cap) t m)) (some ⟨g, 0, none⟩) (bl s) := by
  subst hg
  refine ⟨fun x hx => ?_, by rw [bl_length]; omega, (fun h => by cases h), fun _ => ⟨w.heap.size, 0, rfl, by simp [World.size_alloc], fun i hi => ?_⟩⟩
  · obtain ⟨u, _, rfl⟩ := List.mem_map.1 hx
    exact u.toNat_lt
  · rw [bl_length] at hi
    rw [Nat.zero_add, World.cell?_alloc_mark, bytesRow_at s cap i (by simpa using hi)]
    simp [bl, List.getD_eq_getElem?_getD, hi]

theorem of_bytes (w : World) (s : ByteArray) (t : TypeId) (cap : Nat) (m : Nat × Nat) (hs : s.size ≤ 4096) :
    Calls Try.prog 9 #[.slice (some ⟨w.heap.size, 0, none⟩) s.size cap] (w.alloc (.cells (bytesRow s cap) t m)).drew (BPost (.tuple #[.int .i64 (Dig.dof (bl s)), (.agg #[.int .i64 0, .int .i64 0])]) (w.alloc (.cells (bytesRow s cap) t m)).drew) := by
  have h := of_ok (some ⟨w.heap.size, 0, none⟩) (bl s) cap (by rw [bl_length]; exact hs) (w.alloc (.cells (bytesRow s cap) t m)).drew ⟨(bts_new w _ s t cap m rfl (by omega)).small, (bts_new w _ s t cap m rfl (by omega)).len, (bts_new w _ s t cap m rfl (by omega)).nil', (bts_new w _ s t cap m rfl (by omega)).at'⟩
  rw [bl_length] at h
  exact h

/-- the block that a call has made for its second result: still there, and its own -/
theorem kept2 {w wr : World} {x y : Value} {t : TypeId} {W : World} (hW : W = w.alloc (.cells #[x, y] t (0, 0))) (hb : Below (w.heap.size + 1) W wr) :
    wr.cell? ⟨w.heap.size, 0, none⟩ = some x ∧ wr.cell? ⟨w.heap.size, 1, none⟩ = some y ∧ wr.frozen? ⟨w.heap.size, 0, none⟩ = false ∧ wr.frozen? ⟨w.heap.size, 1, none⟩ = false ∧ w.heap.size < wr.heap.size := by
  subst hW
  have hz := hb.size
  refine ⟨?_, ?_, ?_, ?_, ?_⟩
  · rw [hb.cell (p := ⟨w.heap.size, 0, none⟩) (Nat.lt_succ_self _), World.cell?_alloc_mark]; rfl
  · rw [hb.cell (p := ⟨w.heap.size, 1, none⟩) (Nat.lt_succ_self _), World.cell?_alloc_mark]; rfl
  · rw [hb.frozen (p := ⟨w.heap.size, 0, none⟩) (Nat.lt_succ_self _), World.frozen?_alloc_mark]; rfl
  · rw [hb.frozen (p := ⟨w.heap.size, 1, none⟩) (Nat.lt_succ_self _), World.frozen?_alloc_mark]; rfl
  · rw [World.size_alloc] at hz; omega

theorem set2 {wr : World} {g : Nat} {x y : Value} (c0 : wr.cell? ⟨g, 0, none⟩ = some x) (c1 : wr.cell? ⟨g, 1, none⟩ = some y) (a b : Value) :
    (wr.setCell ⟨g, 0, none⟩ a).cell? ⟨g, 0, none⟩ = some a ∧ (wr.setCell ⟨g, 0, none⟩ a).cell? ⟨g, 1, none⟩ = some y ∧ ((wr.setCell ⟨g, 0, none⟩ a).setCell ⟨g, 1, none⟩ b).cell? ⟨g, 1, none⟩ = some b := by
  have e : (wr.setCell ⟨g, 0, none⟩ a).cell? ⟨g, 1, none⟩ = some y := by rw [World.cell?_setCell_other _ _ _ _ (by simp), c1]
  exact ⟨World.cell?_setCell_same _ _ _ c0, e, World.cell?_setCell_same _ _ _ e⟩

set_option maxHeartbeats 400000 in
theorem strings_long (p : Option Addr) (n cap : Nat) (h : 120 < n) (hn : n ≤ 281474976710656) (w : World) :
    Calls Try.prog 15 #[.slice p n cap] w (BPost (.tuple #[.int .i64 0, .agg #[.int .i64 2, .int .i64 (-1)]]) w) := by
  go_enter Try.func15, Try.ntmps15
  go_wp2
  go_returns
  refine ⟨rfl, ?_⟩; (repeat' (first | (with_reducible exact Below.refl _ _) | (with_reducible assumption) | (with_reducible refine below_drewN ?_ _) | (with_reducible refine Below.setCell ?_ ?_ _) | (with_reducible refine Below.alloc ?_ ?_ _) | (with_reducible refine Below.drew ?_) | go_size))

set_option maxHeartbeats 1000000 in
theorem strings_ok (p : Option Addr) (l : List ByteArray) (cap : Nat) (h : l.length ≤ 120) (hall : ∀ s ∈ l, s.size ≤ 4096) (w : World) (hp : Sts w p l) :
    Calls Try.prog 15 #[.slice p l.length cap] w (BPost (.tuple #[.int .i64 (Dig.dstr (l.map bl)), (.agg #[.int .i64 0, .int .i64 0])]) w) := by
  by_cases hnil : l = []
  · subst hnil
    go_enter Try.func15, Try.ntmps15
    go_wp2
    go_rounds 1
    go_returns
    refine ⟨rfl, ?_⟩; (repeat' (first | (with_reducible exact Below.refl _ _) | (with_reducible assumption) | (with_reducible refine below_drewN ?_ _) | (with_reducible refine Below.setCell ?_ ?_ _) | (with_reducible refine Below.alloc ?_ ?_ _) | (with_reducible refine Below.drew ?_) | go_size))
  · obtain ⟨hs, hlen, _, hat⟩ := hp
    obtain ⟨b, off, rfl, hb, hc⟩ := hat hnil
    have hH := Lib.hid hc
    have hA := Lib.hid hall
    clear hc hs hat hall
    have hcv := fun w s => run_bytes_of_string (P := Try.prog) w 9 22 5 s Try.underlying9 Try.underlying22 Try.underlying5
    go_enter Try.func15, Try.ntmps15
    have g0 : decide (120 < (l.length : Int)) = false := by rw [decide_eq_false_iff_not]; omega
    go_wp2_with fail
    go_loopw [4, 15] (fun x i wr => ∃ k : Nat, k ≤ l.length ∧ i = .int .i64 k ∧ x = .int .i64 (Dig.dstr ((l.take k).map bl)) ∧ Below (w.heap.size + 1) (w.alloc (.cells #[.int .i64 0, .int .i64 0] 25 (0, 0))) wr) (fun _ i _ => l.length - (intOf i).toNat)
    case atStart => exact ⟨0, Nat.zero_le _, rfl, rfl, Below.refl _ _⟩
    case round =>
      obtain ⟨k, hk, rfl, rfl, hbel⟩ := hrel
      obtain ⟨c0, c1, f0, f1, hz⟩ := kept2 rfl hbel
      by_cases hlt : k < l.length
      · obtain ⟨x, hx⟩ : ∃ x, x = l[k] := ⟨_, rfl⟩
        have h1 : wr.cell? ⟨b, off + k, none⟩ = some (.string x) := by
          rw [hbel.cell (p := ⟨b, off + k, none⟩) (by simp; omega), World.cell?_alloc_lt _ _ _ hb, hH.out k hlt, hx]; simp [List.getD_eq_getElem?_getD, hlt]
        have h2 : x.size ≤ 4096 := by rw [hx]; exact hA.out _ (List.getElem_mem _)
        have h3 : Hid (Dig.pr (Dig.dstr ((l.take k).map bl)) (Dig.dof (bl x)) = Dig.dstr ((l.take (k + 1)).map bl)) := Lib.hid (by rw [Dig.take_snoc l k hlt, List.map_append, List.map_singleton, Dig.dstr_snoc, hx])
        have h4 := Dig.dstr_lt ((l.take k).map bl)
        have h5 := Dig.dof_lt (bl x)
        clear hx
        obtain ⟨d, hd⟩ : ∃ d, d = Dig.dstr ((l.take k).map bl) := ⟨_, rfl⟩
        rw [← hd] at h3 h4 ⊢
        clear hd
        go_wp2_with (rw [hcv])
        refine (of_bytes _ x _ _ _ h2).mono ?_
        rintro e w1 ⟨rfl, hb1⟩
        go_wp2_with fail
        refine (combine_eq d (Dig.dof (bl x)) _ h4 h5 h3.out _).mono ?_
        rintro e w' ⟨rfl, m, rfl⟩
        go_wp2_with fail
        go_roundw
        case rel => 
          refine ⟨k + 1, by omega, by go_num, by simp [List.map_take], ?_⟩
          have hb2 : Below (w.heap.size + 1) wr w1 := Below.trans (b := (wr.alloc (.cells (bytesRow x (grownCap wr x.size 0 5)) 5 ((bytesRow x (grownCap wr x.size 0 5)).size, (bytesRow x (grownCap wr x.size 0 5)).size + 1))).drew) (((Below.refl _ _).alloc (by omega) _).drew) (hb1.mono (by simp; omega))
          have hz2 := hb2.size
          have hb3 := hbel.trans hb2
          (repeat' (first | (with_reducible exact Below.refl _ _) | (with_reducible assumption) | (with_reducible refine below_drewN ?_ _) | (with_reducible refine Below.setCell ?_ ?_ _) | (with_reducible refine Below.alloc ?_ ?_ _) | (with_reducible refine Below.drew ?_) | go_size))
        case measure => simp [intOf]; omega
      · have hk' : Hid (l.take k = l) := Lib.hid (List.take_of_length_le (by omega))
        go_wp2_with fail
        obtain ⟨d0, d1, d2⟩ := set2 c0 c1 (.int .i64 0) (.int .i64 0)
        refine bodyPost_ret (v := .tuple #[.int .i64 (Dig.dstr ((l.take k).map bl)), (.agg #[.int .i64 0, .int .i64 0])]) (by simp [results, Try.results15, go_sem, d0, d2]) rfl ?_
        rw [hk'.out]
        refine ⟨rfl, ?_⟩
        have hb2 : Below w.heap.size w wr := ((Below.refl _ _).alloc (Nat.le_refl _) _).trans (hbel.mono (by omega))
        (repeat' (first | (with_reducible exact Below.refl _ _) | (with_reducible assumption) | (with_reducible refine below_drewN ?_ _) | (with_reducible refine Below.setCell ?_ ?_ _) | (with_reducible refine Below.alloc ?_ ?_ _) | (with_reducible refine Below.drew ?_) | go_size))

set_option maxHeartbeats 1000000 in
theorem strings_bad (p : Option Addr) (l : List ByteArray) (cap j : Nat) (h : l.length ≤ 120) (hj : j < l.length) (hbad : 4096 < l[j].size) (hall : ∀ i (hi : i < j), (l[i]'(by omega)).size ≤ 4096) (w : World) (hp : Sts w p l) :
    Calls Try.prog 15 #[.slice p l.length cap] w (BPost (.tuple #[.int .i64 0, .agg #[.int .i64 2, .int .i64 j]]) w) := by
  have hnil : l ≠ [] := by intro e; subst e; simp at hj
  obtain ⟨hs, hlen, _, hat⟩ := hp
  obtain ⟨b, off, rfl, hb, hc⟩ := hat hnil
  have hH := Lib.hid hc
  have hS := Lib.hid hs
  have hA := Lib.hid hall
  have hB := Lib.hid hbad
  clear hc hs hat hall hbad hnil
  have hcv := fun w s => run_bytes_of_string (P := Try.prog) w 9 22 5 s Try.underlying9 Try.underlying22 Try.underlying5
  go_enter Try.func15, Try.ntmps15
  have g0 : decide (120 < (l.length : Int)) = false := by rw [decide_eq_false_iff_not]; omega
  go_wp2_with fail
  go_loopw [4, 15] (fun x i wr => ∃ k d : Nat, k ≤ j ∧ d < 2305843009213693951 ∧ i = .int .i64 k ∧ x = .int .i64 d ∧ Below (w.heap.size + 1) (w.alloc (.cells #[.int .i64 0, .int .i64 0] 25 (0, 0))) wr) (fun _ i _ => l.length - (intOf i).toNat)
  case atStart => exact ⟨0, 2, Nat.zero_le _, by omega, rfl, rfl, Below.refl _ _⟩
  case round =>
    obtain ⟨k, d, hk, hd, rfl, rfl, hbel⟩ := hrel
    obtain ⟨c0, c1, f0, f1, hz⟩ := kept2 rfl hbel
    have hlt : k < l.length := by omega
    obtain ⟨x, hx⟩ : ∃ x, x = l[k] := ⟨_, rfl⟩
    have h1 : wr.cell? ⟨b, off + k, none⟩ = some (.string x) := by
      rw [hbel.cell (p := ⟨b, off + k, none⟩) (by simp; omega), World.cell?_alloc_lt _ _ _ hb, hH.out k hlt, hx]; simp [List.getD_eq_getElem?_getD, hlt]
    by_cases hkj : k < j
    · have h2 : x.size ≤ 4096 := by rw [hx]; exact hA.out k hkj
      have h5 := Dig.dof_lt (bl x)
      have h6 : Hid (Dig.pr d (Dig.dof (bl x)) < 2305843009213693951) := Lib.hid (Dig.pr_lt _ _)
      clear hx
      go_wp2_with (rw [hcv])
      refine (of_bytes _ x _ _ _ h2).mono ?_
      rintro e w1 ⟨rfl, hb1⟩
      go_wp2_with fail
      refine (combine_eq d (Dig.dof (bl x)) _ hd h5 rfl _).mono ?_
      rintro e w' ⟨rfl, m, rfl⟩
      go_wp2_with fail
      go_roundw
      case rel =>
        refine ⟨k + 1, _, by omega, h6.out, by go_num, rfl, ?_⟩
        have hb2 : Below (w.heap.size + 1) wr w1 := Below.trans (b := (wr.alloc (.cells (bytesRow x (grownCap wr x.size 0 5)) 5 ((bytesRow x (grownCap wr x.size 0 5)).size, (bytesRow x (grownCap wr x.size 0 5)).size + 1))).drew) (((Below.refl _ _).alloc (by omega) _).drew) (hb1.mono (by simp; omega))
        have hz2 := hb2.size
        have hb3 := hbel.trans hb2
        (repeat' (first | (with_reducible exact Below.refl _ _) | (with_reducible assumption) | (with_reducible refine below_drewN ?_ _) | (with_reducible refine Below.setCell ?_ ?_ _) | (with_reducible refine Below.alloc ?_ ?_ _) | (with_reducible refine Below.drew ?_) | go_size))
      case measure => simp [intOf]; omega
    · obtain rfl : k = j := by omega
      have h2 : 4096 < x.size := by rw [hx]; exact hB.out
      have h7 : x.size ≤ 140737488351232 := by rw [hx]; exact hS.out _ (List.getElem_mem _)
      clear hx
      go_wp2_with (rw [hcv])
      refine (of_long _ _ _ h2 (by omega) _).mono ?_
      rintro e w1 ⟨rfl, hb1⟩
      have hb2 : Below (w.heap.size + 1) wr w1 := Below.trans (b := (wr.alloc (.cells (bytesRow x (grownCap wr x.size 0 5)) 5 ((bytesRow x (grownCap wr x.size 0 5)).size, (bytesRow x (grownCap wr x.size 0 5)).size + 1))).drew) (((Below.refl _ _).alloc (by omega) _).drew) (hb1.mono (by simp; omega))
      have hb3 := hbel.trans hb2
      obtain ⟨c0', c1', f0', f1', hz'⟩ := kept2 rfl hb3
      clear c0 c1 f0 f1
      go_wp2_with fail
      go_region
      go_wp2_with fail
      obtain ⟨d0, d1, d2⟩ := set2 c0' c1' (.int .i64 2) (.int .i64 k)
      refine bodyPost_ret (v := .tuple #[.int .i64 0, .agg #[.int .i64 2, .int .i64 k]]) (by simp [results, Try.results15, go_sem, d0, d2, hz']) rfl ?_
      refine ⟨rfl, ?_⟩
      have hb4 : Below w.heap.size w w1 := ((Below.refl _ _).alloc (Nat.le_refl _) _).trans (hb3.mono (by omega))
      (repeat' (first | (with_reducible exact Below.refl _ _) | (with_reducible assumption) | (with_reducible refine below_drewN ?_ _) | (with_reducible refine Below.setCell ?_ ?_ _) | (with_reducible refine Below.alloc ?_ ?_ _) | (with_reducible refine Below.drew ?_) | go_size))
end Go.Proofs.Ytholdclfckkidaa
