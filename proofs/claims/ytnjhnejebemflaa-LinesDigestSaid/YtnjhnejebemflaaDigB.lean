/-
  Package digest: mulAdd and Of, walked.
-/
import Derived.Test.YtnjhnejebemflaaDigA
import Derived.Test.YtnjhnejebemflaaDigM
import Derived.Test.YtnjhnejebemflaaMem
import Derived.LoopTactic
import Derived.Laws.Externs
import Derived.Deep.QuietTactic
import Derived.BigQuiet
import Derived.WalkSmall
import Derived.Laws.IdiomStrings
import Derived.BigRegion
namespace Go.Proofs.Ytnjhnejebemflaa
open Go.RowKit Go.Lib

set_option maxHeartbeats 400000 in
set_option maxRecDepth 100000 in
theorem div64_M0 (lo : Nat) (hl : lo < 18446744073709551616) (w : World) :
    Calls Try.prog 44 #[.int .u64 0, .int .u64 lo, .int .u64 2305843009213693951] w
      (QPost (.tuple #[.int .u64 ((lo / 2305843009213693951 : Nat) : Int), .int .u64 ((lo % 2305843009213693951 : Nat) : Int)]) w) := by
  go_enter Try.func44, Try.ntmps44
  go_wp2_with fail
  go_quiet (fail)
  go_wp2_with fail
  go_ret2
  exact ⟨rfl, _, rfl⟩

theorem div64_any (hi lo : Nat) (hh : hi < 262144) (hl : lo < 18446744073709551616) (w : World) :
    Calls Try.prog 44 #[.int .u64 hi, .int .u64 lo, .int .u64 2305843009213693951] w
      (QPost (.tuple #[.int .u64 (((hi * 18446744073709551616 + lo) / 2305843009213693951 : Nat) : Int), .int .u64 (((hi * 18446744073709551616 + lo) % 2305843009213693951 : Nat) : Int)]) w) := by
  by_cases h : hi = 0
  · subst h
    have := div64_M0 lo hl w
    rw [Nat.zero_mul, Nat.zero_add]; exact this
  · exact (div64_M hi lo (by omega) hh hl w).mono fun e w' ⟨he, hw⟩ => ⟨he, 0, hw.symm⟩

set_option maxHeartbeats 400000 in
set_option maxRecDepth 100000 in
theorem rem64_any (hi lo : Nat) (hh : hi < 262144) (hl : lo < 18446744073709551616) (w : World) :
    Calls Try.prog 39 #[.int .u64 hi, .int .u64 lo, .int .u64 2305843009213693951] w
      (QPost (.int .u64 (((hi * 18446744073709551616 + lo) % 2305843009213693951 : Nat) : Int)) w) := by
  have g1 : (hi : Int) % 2305843009213693951 = (hi : Int) := by omega
  go_enter Try.func39, Try.ntmps39
  go_wp2_with fail
  refine (div64_any hi lo hh hl _).mono ?_
  rintro e w' ⟨rfl, n, rfl⟩
  go_wp2_with fail
  go_ret
  exact ⟨rfl, _, rfl⟩

theorem add64_call (x y : Int) (hx : 0 ≤ x) (hy : 0 ≤ y) (w : World) :
    (callFunc 38 #[.int .u64 x, .int .u64 y, .int .u64 0]).run Try.prog w =
      .ok (.value (.tuple #[.int .u64 ((x + y) % 18446744073709551616), .int .u64 ((x + y) / 18446744073709551616)])) w := by
  rw [run_callFunc_extern Try.func38 (by kernel_rfl) (by kernel_rfl) (by kernel_rfl) (e := add64Entry) (by kernel_rfl), run_add64 x y 0 hx hy (by omega) (by omega)]
  simp only [Result.andThen, Int.add_zero]

set_option maxHeartbeats 400000 in
set_option maxRecDepth 100000 in
theorem mulAdd_any (f n c : Nat) (hf : f ≤ 1000003) (hn : n < 2305843009213693951) (hc : c < 2305843009213693951) (w : World) :
    Calls Try.prog 31 #[.int .i64 f, .int .i64 n, .int .i64 c] w (QPost (.int .i64 (((f * n + c) % 2305843009213693951 : Nat) : Int)) w) := by
  have hb : f * n < 1000003 * 2305843009213693951 := Nat.lt_of_le_of_lt (Nat.mul_le_mul_right n hf) (Nat.mul_lt_mul_of_pos_left hn (by omega))
  obtain ⟨p, hp⟩ : ∃ p, p = f * n := ⟨_, rfl⟩
  rw [← hp] at hb ⊢
  obtain ⟨r, hr⟩ : ∃ r, r = (p + c) % 2305843009213693951 := ⟨_, rfl⟩
  have b6 : r < 2305843009213693951 := by omega
  rw [← hr]
  obtain ⟨H, hH⟩ : ∃ H, H = p / 18446744073709551616 := ⟨_, rfl⟩
  obtain ⟨L, hL⟩ : ∃ L, L = p % 18446744073709551616 := ⟨_, rfl⟩
  obtain ⟨H', hH'⟩ : ∃ H', H' = H + (L + c) / 18446744073709551616 := ⟨_, rfl⟩
  obtain ⟨L', hL'⟩ : ∃ L', L' = (L + c) % 18446744073709551616 := ⟨_, rfl⟩
  have e1 : ((L : Int) + c) % 18446744073709551616 = L' := by omega
  have e2 : (H : Int) + ((L : Int) + c) / 18446744073709551616 = H' := by omega
  have b1 : H < 131072 := by omega
  have b2 : H' < 262144 := by omega
  have b3 : L' < 18446744073709551616 := by omega
  have b4 : (0 : Int) ≤ ((L : Int) + c) / 18446744073709551616 := by omega
  have b5 : ((L : Int) + c) / 18446744073709551616 ≤ 1 := by omega
  have key : Hid (p = H * 18446744073709551616 + L ∧ p + c = H' * 18446744073709551616 + L') := Lib.hid (by omega)
  have HH := Lib.hid hH
  have HL := Lib.hid hL
  have HP := Lib.hid hp
  have HR := Lib.hid hr
  clear hH hL hH' hL' hp hr
  go_enter Try.func31, Try.ntmps31
  go_wp2_with fail
  refine (mul64_any f n (by omega) (by omega) _).mono ?_
  rintro e w' ⟨rfl, rfl⟩
  rw [← HP.out, ← HH.out, ← HL.out]
  have ha := fun w => add64_call (L : Int) (c : Int) (by omega) (by omega) w
  go_wp2_with (rw [ha])
  refine (rem64_any H' L' b2 b3 _).mono ?_
  rintro e w' ⟨rfl, n', rfl⟩
  rw [show (H' * 18446744073709551616 + L') % 2305843009213693951 = r by rw [HR.out, key.out.2]]
  clear e1 e2 ha
  go_wp2_with fail
  go_ret
  exact ⟨rfl, _, rfl⟩

theorem mulAdd_eq (f n c r : Nat) (C : Int) (hC : C = (c : Int)) (hf : f ≤ 1000003) (hn : n < 2305843009213693951) (hc : c < 2305843009213693951) (hr : (f * n + c) % 2305843009213693951 = r) (w : World) :
    Calls Try.prog 31 #[.int .i64 f, .int .i64 n, .int .i64 C] w (QPost (.int .i64 (r : Int)) w) := by
  subst hC; subst hr; exact mulAdd_any f n c hf hn hc w

set_option maxHeartbeats 400000 in
theorem of_long (p : Option Addr) (n cap : Nat) (h : 4096 < n) (hn : n ≤ 281474976710656) (w : World) :
    Calls Try.prog 20 #[.slice p n cap] w (BPost (.tuple #[.int .i64 0, .agg #[.int .i64 2, .int .i64 0]]) w) := by
  go_enter Try.func20, Try.ntmps20
  go_wp2
  go_returns
  refine ⟨rfl, ?_⟩; (repeat' (first | (with_reducible exact Below.refl _ _) | (with_reducible assumption) | (with_reducible refine below_drewN ?_ _) | (with_reducible refine Below.setCell ?_ ?_ _) | (with_reducible refine Below.alloc ?_ ?_ _) | (with_reducible refine Below.drew ?_) | go_size))

set_option maxHeartbeats 400000 in
theorem of_ok (p : Option Addr) (l : List Nat) (cap : Nat) (h : l.length ≤ 4096) (w : World) (hp : Bts w p l) :
    Calls Try.prog 20 #[.slice p l.length cap] w (BPost (.tuple #[.int .i64 (Dig.dof l), (.agg #[.int .i64 0, .int .i64 0])]) w) := by
  by_cases hnil : l = []
  · subst hnil
    go_enter Try.func20, Try.ntmps20
    go_wp2
    go_rounds 1
    go_returns
    refine ⟨rfl, ?_⟩; (repeat' (first | (with_reducible exact Below.refl _ _) | (with_reducible assumption) | (with_reducible refine below_drewN ?_ _) | (with_reducible refine Below.setCell ?_ ?_ _) | (with_reducible refine Below.alloc ?_ ?_ _) | (with_reducible refine Below.drew ?_) | go_size))
  · obtain ⟨hs, hlen, _, hat⟩ := hp
    obtain ⟨b, off, rfl, hb, hc⟩ := hat hnil
    have hH := Lib.hid hc
    have hS := Lib.hid hs
    clear hc hs hat
    go_enter Try.func20, Try.ntmps20
    go_wp2
    go_loopw [4, 13] (fun x i wr => ∃ k : Nat, k ≤ l.length ∧ i = .int .i64 k ∧ x = .int .i64 (Dig.dof (l.take k)) ∧ ∃ n, wr = (w.alloc (.cells #[.int .i64 0, .int .i64 0] 24 (0, 0))).drewN n) (fun _ i _ => l.length - (intOf i).toNat)
    case atStart => exact ⟨0, Nat.zero_le _, rfl, rfl, 0, rfl⟩
    case round =>
      obtain ⟨k, hk, rfl, rfl, n, rfl⟩ := hrel
      by_cases hlt : k < l.length
      · obtain ⟨x, hx⟩ : ∃ x, x = l[k] := ⟨_, rfl⟩
        have h1 : w.cell? ⟨b, off + k, none⟩ = some (.int .u8 (x : Int)) := by
          rw [hH.out k hlt, hx]; congr 3; simp [List.getD_eq_getElem?_getD, hlt]
        have h2 : x < 256 := by rw [hx]; exact hS.out _ (List.getElem_mem _)
        have h3 : Hid (Dig.step (Dig.dof (l.take k)) x = Dig.dof (l.take (k + 1))) := Lib.hid (by rw [Dig.take_snoc l k hlt, Dig.dof_snoc, hx])
        have h4 := Dig.dof_lt (l.take k)
        clear hx
        obtain ⟨d, hd⟩ : ∃ d, d = Dig.dof (l.take k) := ⟨_, rfl⟩
        rw [← hd] at h3 h4 ⊢
        clear hd
        go_wp2_with fail
        refine (mulAdd_eq 257 d (x + 1) _ _ rfl (by omega) h4 (by omega) h3.out _).mono ?_
        rintro e w' ⟨rfl, m, rfl⟩
        go_wp2_with fail
        go_roundw
        case rel => exact ⟨k + 1, by omega, by go_num, rfl, _, rfl⟩
        case measure => simp [intOf]; omega
      · have hk' : Hid (l.take k = l) := Lib.hid (List.take_of_length_le (by omega))
        go_wp2_with fail
        go_returns
        rw [hk'.out]
        refine ⟨rfl, ?_⟩; (repeat' (first | (with_reducible exact Below.refl _ _) | (with_reducible assumption) | (with_reducible refine below_drewN ?_ _) | (with_reducible refine Below.setCell ?_ ?_ _) | (with_reducible refine Below.alloc ?_ ?_ _) | (with_reducible refine Below.drew ?_) | go_size))

theorem of_nil (w : World) : Calls Try.prog 20 #[.slice none 0 0] w (BPost (.tuple #[.int .i64 1, (.agg #[.int .i64 0, .int .i64 0])]) w) :=
  of_ok none [] 0 (by decide) w ⟨by simp, by simp, fun _ => rfl, fun h => (h rfl).elim⟩
theorem of_at (p : Option Addr) (l : List Nat) (n cap : Nat) (w : World) (hn : n = l.length) (h : n ≤ 4096) (hp : Bts w p l) :
    Calls Try.prog 20 #[.slice p n cap] w (BPost (.tuple #[.int .i64 (Dig.dof l), (.agg #[.int .i64 0, .int .i64 0])]) w) := by
  subst hn; exact of_ok p l cap h w hp

def ofV (l : List Nat) : Int := if l.length ≤ 4096 then (Dig.dof l : Nat) else 0
def ofC (l : List Nat) : Int := if l.length ≤ 4096 then 0 else 2
theorem of_any (p : Option Addr) (l : List Nat) (n cap : Nat) (w : World) (hn : n = l.length) (hp : Bts w p l) :
    Calls Try.prog 20 #[.slice p n cap] w (BPost (.tuple #[.int .i64 (ofV l), .agg #[.int .i64 (ofC l), .int .i64 0]]) w) := by
  by_cases h : l.length ≤ 4096
  · rw [ofV, ofC, if_pos h, if_pos h]; exact of_at p l n cap w hn (by omega) hp
  · rw [ofV, ofC, if_neg h, if_neg h]; exact of_long p n cap (by omega) (by have := hp.len; omega) w
theorem ofC_zero (l : List Nat) (h : l.length ≤ 4096) : ofC l = 0 := by rw [ofC, if_pos h]
theorem ofC_two (l : List Nat) (h : ¬ l.length ≤ 4096) : ofC l = 2 := by rw [ofC, if_neg h]
theorem ofV_ok (l : List Nat) (h : l.length ≤ 4096) : ofV l = (Dig.dof l : Nat) := by rw [ofV, if_pos h]

theorem bts_new (w : World) (g : Nat) (s : ByteArray) (t : TypeId) (cap : Nat) (m : Nat × Nat) (hg : g = w.heap.size) (hs : s.size ≤ 140737488351232) : Bts (w.alloc (.cells (bytesRow s cap) t m)) (some ⟨g, 0, none⟩) (bl s) := by
  subst hg
  refine ⟨fun x hx => ?_, by rw [bl_length]; omega, (fun h => by cases h), fun _ => ⟨w.heap.size, 0, rfl, by simp [World.size_alloc], fun i hi => ?_⟩⟩
  · obtain ⟨u, _, rfl⟩ := List.mem_map.1 hx
    exact u.toNat_lt
  · rw [bl_length] at hi
    rw [Nat.zero_add, World.cell?_alloc_mark, bytesRow_at s cap i (by simpa using hi)]
    simp [bl, List.getD_eq_getElem?_getD, hi]

theorem of_bytes (w : World) (s : ByteArray) (t : TypeId) (cap : Nat) (m : Nat × Nat) (hs : s.size ≤ 4096) :
    Calls Try.prog 20 #[.slice (some ⟨w.heap.size, 0, none⟩) s.size cap] (w.alloc (.cells (bytesRow s cap) t m)).drew (BPost (.tuple #[.int .i64 (Dig.dof (bl s)), (.agg #[.int .i64 0, .int .i64 0])]) (w.alloc (.cells (bytesRow s cap) t m)).drew) := by
  have h := of_ok (some ⟨w.heap.size, 0, none⟩) (bl s) cap (by rw [bl_length]; exact hs) (w.alloc (.cells (bytesRow s cap) t m)).drew ⟨(bts_new w _ s t cap m rfl (by omega)).small, (bts_new w _ s t cap m rfl (by omega)).len, (bts_new w _ s t cap m rfl (by omega)).nil', (bts_new w _ s t cap m rfl (by omega)).at'⟩
  rw [bl_length] at h
  exact h

/-- the block that a call has made for its second result: still there, and its own -/
theorem kept2 {w wr : World} {x y : Value} {t : TypeId} {W : World} (hW : W = w.alloc (.cells #[x, y] t (0, 0))) (hb : Below (w.heap.size + 1) W wr) :
    wr.cell? ⟨w.heap.size, 0, none⟩ = some x ∧ wr.cell? ⟨w.heap.size, 1, none⟩ = some y ∧ wr.frozen? ⟨w.heap.size, 0, none⟩ = false ∧ wr.frozen? ⟨w.heap.size, 1, none⟩ = false ∧ w.heap.size < wr.heap.size := by
  subst hW
  have hz := hb.size
  refine ⟨?_, ?_, ?_, ?_, ?_⟩
  · rw [hb.cell (p := ⟨w.heap.size, 0, none⟩) (Nat.lt_succ_self _), World.cell?_alloc_mark]; rfl
  · rw [hb.cell (p := ⟨w.heap.size, 1, none⟩) (Nat.lt_succ_self _), World.cell?_alloc_mark]; rfl
  · rw [hb.frozen (p := ⟨w.heap.size, 0, none⟩) (Nat.lt_succ_self _), World.frozen?_alloc_mark]; rfl
  · rw [hb.frozen (p := ⟨w.heap.size, 1, none⟩) (Nat.lt_succ_self _), World.frozen?_alloc_mark]; rfl
  · rw [World.size_alloc] at hz; omega

theorem set2 {wr : World} {g : Nat} {x y : Value} (c0 : wr.cell? ⟨g, 0, none⟩ = some x) (c1 : wr.cell? ⟨g, 1, none⟩ = some y) (a b : Value) :
    (wr.setCell ⟨g, 0, none⟩ a).cell? ⟨g, 0, none⟩ = some a ∧ (wr.setCell ⟨g, 0, none⟩ a).cell? ⟨g, 1, none⟩ = some y ∧ ((wr.setCell ⟨g, 0, none⟩ a).setCell ⟨g, 1, none⟩ b).cell? ⟨g, 1, none⟩ = some b := by
  have e : (wr.setCell ⟨g, 0, none⟩ a).cell? ⟨g, 1, none⟩ = some y := by rw [World.cell?_setCell_other _ _ _ _ (by simp), c1]
  exact ⟨World.cell?_setCell_same _ _ _ c0, e, World.cell?_setCell_same _ _ _ e⟩
end Go.Proofs.Ytnjhnejebemflaa
