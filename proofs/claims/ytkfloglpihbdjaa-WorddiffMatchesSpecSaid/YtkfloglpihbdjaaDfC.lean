
/-
  The program's diff.Common, walked, and the function that it hands to eachKept.
-/
import Derived.Test.YtkfloglpihbdjaaDfE
import Derived.Test.YtkfloglpihbdjaaDfD
import Derived.Test.YtkfloglpihbdjaaDifK
import Derived.Deep.RegionHeld3
namespace Go.Proofs.Ytkfloglpihbdjaa
open Go.RowKit
set_option maxRecDepth 4000

theorem kept_snoc (l : List (Nat × ByteArray)) (k : Nat) (x : ByteArray) : kept (l ++ [(k, x)]) = kept l ++ (if k = 0 then [x] else []) := by
  unfold kept
  rw [List.filter_append, List.map_append]
  congr 1
  by_cases e : k = 0
  · simp [List.filter, e]
  · have : (k == 0) = false := by simpa using e
    rw [if_neg e]; simp [List.filter, this]

/-- a cell that is there is there behind a new block -/
theorem cell_up {w : World} {a : Addr} {v : Value} (h : w.cell? a = some v) (o : Obj) : (w.alloc o).cell? a = some v := by
  rw [← h]; exact ((Below.refl w.heap.size w).alloc (Nat.le_refl _) o).cell (cell_block_lt h)
theorem frozen_up {w : World} {a : Addr} {v : Value} (h : w.cell? a = some v) (hf : w.frozen? a = false) (o : Obj) : (w.alloc o).frozen? a = false := by
  rw [← hf]; exact ((Below.refl w.heap.size w).alloc (Nat.le_refl _) o).frozen (cell_block_lt h)

/-- what holds between two calls of the function: its slice lies in block g, the first text's in block ga -/
structure CI (g ga : Nat) (V : Value) (B C : Nat) (l : List ByteArray) (w : World) : Prop where
  own : ∃ v, w.cell? ⟨g, 0, none⟩ = some v ∧ OwnE strE C w v l
  fr : w.frozen? ⟨g, 0, none⟩ = false
  ca : w.cell? ⟨ga, 0, none⟩ = some V
  hB : B ≤ C
  hC : C ≤ w.heap.size

set_option maxHeartbeats 2000000 in
theorem keep1_any (g ga A B C : Nat) (p : Option Addr) (a : List ByteArray) (cap i j : Nat) (l : List ByteArray) (w : World) (hg : A ≤ g) (hga : ga ≠ g) (hgB : g < B) (hgaB : ga < B)
    (hI : CI g ga (.slice p a.length cap) B C l w) (hp : Sts w p a) (hi : i < a.length) (hl : l.length ≤ 1000000) :
    Calls Try.prog 31 #[.int .i64 (i : Int), .int .i64 (j : Int), .pointer (some ⟨g, 0, none⟩), .pointer (some ⟨ga, 0, none⟩)] w fun e w2 => e = .returned (.tuple #[]) ∧ CI g ga (.slice p a.length cap) B C (l ++ [a[i]]) w2 ∧ Far A B C w w2 ∧ ∀ k, k < C → k ≠ g → w2.heap[k]? = w.heap[k]? := by
  obtain ⟨⟨v, hv, own⟩, fr, ca, hB, hC⟩ := hI
  have OWN := Lib.hid own
  obtain ⟨bp, op, rfl, hbp, cx⟩ := hp.cell hi
  obtain ⟨x, hx⟩ : ∃ x, x = a[i] := ⟨_, rfl⟩
  rw [← hx] at cx ⊢
  have b1 : (0 : Int) ≤ (i : Int) := by omega
  have b2 : (i : Int) < (a.length : Int) := by omega
  have hvb : v.ownBlock ≠ some g := fun e => by have := own_block own _ e; omega
  have hva : v.ownBlock ≠ some ga := fun e => by have := own_block own _ e; omega
  clear own hp hx
  go_enter Try.func31, Try.ntmps31
  have G0 := World.grownBy_alloc w (.cells #[.string x] 9 (0, 0)) none
  have qa := cell_up hv (.cells #[.string x] 9 (0, 0))
  have qb := cell_up ca (.cells #[.string x] 9 (0, 0))
  go_region_law (skip; refine step_appE strE _ (by rfl) (.tmp 6) (.tmp 11) (by rfl) C v l x ⟨w.heap.size, 0, none⟩ 1 (by rfl) (OWN.out.alloc _) (by rfl) (str_one' _ w.heap.size (by first | rfl | simp) x _) (by simp [strE]; omega) (by first | omega | (simp; omega)) (by simp; omega) (w.heap.size + 1) (by simp) ?_; intro gg cc w2 own2 gr2 hat2 hlz
                 have G2 : World.grownBy w w2 v.ownBlock := by refine grow_trans ?_ gr2; exact ⟨G0.os, G0.tape, G0.output, G0.size, G0.block⟩
                 have z1 := G2.cell hv (Ne.symm hvb)
                 have z2 : w2.frozen? ⟨g, 0, none⟩ = false := by rw [G2.frozen_far ⟨g, 0, none⟩ (by dsimp only; omega) (Ne.symm hvb), fr])
  all_goals
    have HR : Hid (CI g ga (.slice (some ⟨bp, op, none⟩) a.length cap) B C (l ++ [x]) (w2.setCell ⟨g, 0, none⟩ (.slice (some ⟨gg, 0, none⟩) (l.length + 1) cc)) ∧ Far A B C w (w2.setCell ⟨g, 0, none⟩ (.slice (some ⟨gg, 0, none⟩) (l.length + 1) cc)) ∧ ∀ k, k < C → k ≠ g → (w2.setCell ⟨g, 0, none⟩ (.slice (some ⟨gg, 0, none⟩) (l.length + 1) cc)).heap[k]? = w.heap[k]?) := by
      have hsz := G2.size
      refine ⟨⟨⟨_, World.cell?_setCell_same _ _ _ z1, ownsRow_setCell_below own2 (a := ⟨g, 0, none⟩) (by show g < C; omega) _⟩, by rw [World.frozen?_setCell]; exact z2, ?_, hB, by rw [World.size_setCell]; omega⟩, ⟨?_, fun k h1 h2 => ?_⟩, fun k h1 h2 => ?_⟩
      · rw [World.cell?_setCell_other (h := by intro e; cases e; exact hga rfl)]
        exact G2.cell ca (Ne.symm hva)
      · exact ((Below.refl A w).grown G2 (by omega) fun k hk => by have := own_block OWN.out _ hk; omega).setCell (by exact hg) _
      · rw [Below.heap_setCell _ _ _ _ (by dsimp only; omega)]
        exact G2.block k (by omega) (fun e => by have := own_block OWN.out _ e.symm; omega)
      · rw [Below.heap_setCell _ _ _ _ (by dsimp only; omega)]
        exact G2.block k (by omega) (fun e => by have := own_block OWN.out _ e.symm; omega)
    clear OWN own2 gr2 hat2 G2
    go_wp2_with fail
    go_returns
    exact ⟨rfl, HR.out⟩
theorem Flt.same {w w' : World} {g : Nat} {c i : Int} (h : Flt w g c i) (hb : w'.heap[g]? = w.heap[g]?) : Flt w' g c i := by
  have e : ∀ o, w'.cell? ⟨g, o, none⟩ = w.cell? ⟨g, o, none⟩ := fun o => World.cell?_of_block (a := ⟨g, o, none⟩) hb
  have f : ∀ o, w'.frozen? ⟨g, o, none⟩ = w.frozen? ⟨g, o, none⟩ := fun o => World.frozen?_of_block (a := ⟨g, o, none⟩) hb
  have c0 : w'.cell? ⟨g, 0, none⟩ = some (.int .i64 c) := by rw [e, h.c0]
  exact ⟨c0, by rw [e, h.c1], by rw [f, h.f0], by rw [f, h.f1], cell_block_lt c0⟩

theorem keeps_common {g ga gf : Nat} {p : Option Addr} {a b : List ByteArray} {cap : Nat} {w0 w : World} (hp : Sts w0 p a) (ha : a.length ≤ 120) (hb : b.length ≤ 120)
    (hg : w0.heap.size ≤ g) (hga : ga ≠ g) (hgf : gf ≠ g) (h1 : w.cell? ⟨g, 0, none⟩ = some (.slice none 0 0)) (h2 : w.frozen? ⟨g, 0, none⟩ = false) (h3 : w.cell? ⟨ga, 0, none⟩ = some (.slice p a.length cap)) (h4 : Flt w gf 0 0) :
    Keeps 31 #[.pointer (some ⟨g, 0, none⟩), .pointer (some ⟨ga, 0, none⟩)] a b w0.heap.size w.heap.size w0 w (fun C _ _ out w' => CI g ga (.slice p a.length cap) w.heap.size C (kept out) w' ∧ Flt w' gf 0 0) := by
  have lg := cell_block_lt h1
  have lga := cell_block_lt h3
  refine ⟨fun w1 hb1 => ⟨⟨⟨_, by rw [hb1.cell (p := ⟨g, 0, none⟩) lg, h1], ownE_nil _ _ _⟩, by rw [hb1.frozen (p := ⟨g, 0, none⟩) lg, h2], by rw [hb1.cell (p := ⟨ga, 0, none⟩) lga, h3], hb1.size, Nat.le_refl _⟩, h4.up hb1⟩,
    fun C i j out w1 n h => ⟨⟨h.1.own, h.1.fr, h.1.ca, h.1.hB, h.1.hC⟩, h.2.drewN n⟩, fun C i j out w1 hi h _ => ?_, fun C i j out w1 hj h _ => ?_, fun C i j out w1 hi hj h hA he hBC hC hbel => ?_⟩
  · rw [kept_snoc, if_neg (by decide), List.append_nil]; exact h
  · rw [kept_snoc, if_neg (by decide), List.append_nil]; exact h
  · have hl := kept_len out
    have hol := hA.len
    have := hA.hi
    have := hA.hj
    refine (keep1_any g ga w0.heap.size w.heap.size C p a cap i j (kept out) w1 hg hga lg lga h.1 (hp.mono hbel) hi (by omega)).mono ?_
    rintro e w2 ⟨rfl, k1, k2, k3⟩
    rw [kept_snoc, if_pos rfl]
    exact ⟨rfl, ⟨k1, h.2.same (k3 gf (by have := h4.lt; omega) hgf)⟩, k2⟩
/-- what Common returns -/
noncomputable def kD (a b : List ByteArray) : List ByteArray := if okD a b then Dif.kp a b else []
def KcPost (a b : List ByteArray) (w : World) (e : Ending) (w' : World) : Prop := ∃ v, e = .returned (.tuple #[v, .agg #[.int .i64 (tC a b), .int .i64 (tI a b)]]) ∧ OwnE strE w.heap.size w' v (kD a b) ∧ Below w.heap.size w w'

set_option maxHeartbeats 2000000 in
theorem diffCommon_any (p q : Option Addr) (a b : List ByteArray) (n m cap cap' : Nat) (w : World) (hn : n = a.length) (hm : m = b.length) (hp : Sts w p a) (hq : Sts w q b) :
    Calls Try.prog 19 #[.slice p n cap, .slice q m cap'] w (KcPost a b w) := by
  subst hn hm
  have hmf : ∀ (fn : Fn) (first cap : Array Value) (w : World), (Instr.makeFunc fn first cap).run Try.prog w = .ok (.func fn first cap) w := fun _ _ _ _ => rfl
  have HP := Lib.hid hp
  have HQ := Lib.hid hq
  clear hp hq
  have up0 : Below w.heap.size w ((w.alloc (.cells #[.slice p a.length cap] 22 (0, 0))).alloc (.cells #[.int .i64 0, .int .i64 0] 24 (0, 0))) := up_alloc (up_alloc (Below.refl _ _) _) _
  go_enter Try.func19, Try.ntmps19
  go_wp2_with fail
  refine (valid2_any _ _ a b _ _ _ _ _ rfl rfl (HP.out.mono up0) (HQ.out.mono up0)).mono ?_
  rintro e w1 ⟨rfl, hb1⟩
  have hz1 := hb1.size
  simp only [World.size_alloc] at hz1
  have FA := (Flt.new (w.alloc (.cells #[.slice p a.length cap] 22 (0, 0))) 0 0 24).up hb1
  rw [World.size_alloc] at FA
  have HA := Lib.hid FA
  have u1 := up_call up0 hb1
  have ca : w1.cell? ⟨w.heap.size, 0, none⟩ = some (.slice p a.length cap) := by
    rw [hb1.cell (p := ⟨w.heap.size, 0, none⟩) (by simp; omega), ((Below.refl (w.heap.size + 1) _).alloc (by simp) _).cell (p := ⟨w.heap.size, 0, none⟩) (by dsimp only; omega), World.cell?_alloc_mark]; rfl
  by_cases h : okD a b
  · rw [(tC_ok h).1, (tC_ok h).2]
    have E : Hid (kD a b = Dif.kp a b ∧ tC a b = 0 ∧ tI a b = 0) := Lib.hid ⟨if_pos h, tC_ok h⟩
    have l1 := len_ok h.1
    have l2 := len_ok h.2
    clear h
    obtain ⟨a0, a1, a2, a3, a4⟩ := FA
    have cb := cell_up (cell_up ca (.cells #[.int .i64 0, .int .i64 0] 24 (0, 0))) (.cells #[.slice none 0 0] 22 (0, 0))
    have up2 := up_alloc (up_alloc u1 (.cells #[.int .i64 0, .int .i64 0] 24 (0, 0))) (.cells #[.slice none 0 0] 22 (0, 0))
    have st0 : ((w1.alloc (.cells #[.int .i64 0, .int .i64 0] 24 (0, 0))).alloc (.cells #[.slice none 0 0] 22 (0, 0))).cell? ⟨w1.heap.size + 1, 0, none⟩ = some (.slice none 0 0) := by
      rw [show w1.heap.size + 1 = (w1.alloc (.cells #[.int .i64 0, .int .i64 0] 24 (0, 0))).heap.size by simp, World.cell?_alloc_mark]; rfl
    have st1 : ((w1.alloc (.cells #[.int .i64 0, .int .i64 0] 24 (0, 0))).alloc (.cells #[.slice none 0 0] 22 (0, 0))).frozen? ⟨w1.heap.size + 1, 0, none⟩ = false := by
      rw [show w1.heap.size + 1 = (w1.alloc (.cells #[.int .i64 0, .int .i64 0] 24 (0, 0))).heap.size by simp, World.frozen?_alloc_mark]; rfl
    have HS := Lib.hid (And.intro st0 (And.intro st1 cb))
    have FF := Lib.hid ((HA.out.alloc (.cells #[.int .i64 0, .int .i64 0] 24 (0, 0))).alloc (.cells #[.slice none 0 0] 22 (0, 0)))
    clear st0 st1
    go_wp2_with fail
    have hz : ((w1.alloc (.cells #[.int .i64 0, .int .i64 0] 24 (0, 0))).alloc (.cells #[.slice none 0 0] 22 (0, 0))).heap.size = w1.heap.size + 2 := by simp
    refine (each_any 31 #[.pointer (some ⟨w1.heap.size + 1, 0, none⟩), .pointer (some ⟨w.heap.size, 0, none⟩)] _
      p q a b _ _ _ _ w _ rfl rfl HP.out HQ.out (by omega) (by omega) up2 (enters_of Try.func31 (by kernel_rfl) rfl)
      (keeps_common (gf := w.heap.size + 1) HP.out l1 l2 (by omega) (by omega) (by omega) HS.out.1 HS.out.2.1 HS.out.2.2 FF.out)).mono ?_
    rintro e w3 ⟨rfl, C, ⟨hI, hF⟩, hC, hC3, hb3⟩
    rw [hz] at hC
    obtain ⟨⟨v, hv, own⟩, fr, ca3, -, -⟩ := hI
    obtain ⟨p', cp', rfl, -, -, -, -⟩ := row_of_own own
    have KO := Lib.hid own
    have HB3 := Lib.hid hb3
    clear hz HS FF a0 a1 a2 a3 a4 ca cb ca3 own hb3 up2 u1 up0 hb1
    obtain ⟨d0, d1, -, -, -⟩ := hF.set2 0 0
    obtain ⟨a0, a1, a2, a3, a4⟩ := hF
    go_wp2_with fail
    refine bodyPost_ret (v := .tuple #[.slice p' (kept (Dif.al a b)).length cp', .agg #[.int .i64 0, .int .i64 0]]) (by simp [results, Try.results19, go_sem, d0, d1]) rfl ⟨_, by rw [E.out.2.1, E.out.2.2], ?_, ?_⟩
    · rw [E.out.1]
      refine OwnE.le (base := C) ?_ (by omega)
      exact ownsRow_setCell_below (ownsRow_setCell_below KO.out (a := ⟨w.heap.size + 1, 0, none⟩) (by dsimp only; omega) _) (a := ⟨w.heap.size + 1, 1, none⟩) (by dsimp only; omega) _
    · exact (HB3.out.setCell (by dsimp only; omega) _).setCell (by dsimp only; omega) _
  · have hc := tC_not h
    have E : Hid (kD a b = []) := Lib.hid (if_neg h)
    obtain ⟨d0, d1, -, -, -⟩ := (HA.out.set2 (tC a b) (tI a b)).alloc (.cells #[.int .i64 (tC a b), .int .i64 (tI a b)] 24 (0, 0))
    obtain ⟨a0, a1, a2, a3, a4⟩ := FA
    go_wp2_with fail
    go_region
    go_wp2_with fail
    refine bodyPost_ret (v := .tuple #[.slice none 0 0, .agg #[.int .i64 (tC a b), .int .i64 (tI a b)]]) (by simp [results, Try.results19, go_sem, d0, d1]) rfl ⟨_, rfl, by rw [E.out]; exact ownE_nil _ _ _, ?_⟩
    (repeat' (first | (with_reducible exact Below.refl _ _) | (with_reducible assumption) | (with_reducible refine below_drewN ?_ _) | (with_reducible refine Below.setCell ?_ ?_ _) | (with_reducible refine Below.alloc ?_ ?_ _) | (with_reducible refine Below.drew ?_) | go_size))
end Go.Proofs.Ytkfloglpihbdjaa
