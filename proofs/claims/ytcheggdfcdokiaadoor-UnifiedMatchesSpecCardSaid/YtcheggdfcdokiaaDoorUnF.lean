
/-
  The program's unified: Format, walked.
-/
import Derived.Test.YtcheggdfcdokiaaDoorUnD
import Derived.Test.YtcheggdfcdokiaaDoorUnE
namespace Go.Proofs.YtcheggdfcdokiaaDoor
open Go.RowKit
set_option maxRecDepth 4000

theorem OwnE.bf {α : Type} {e : Enc α} {base B b : Nat} {w W : World} {v : Value} {l : List α} (h : OwnE e base w v l) (hW : Bf B b w W) (hB : w.heap.size ≤ B) (hb : b < base) : OwnE e base W v l := by
  obtain ⟨h1, h2 | ⟨g, cap, cur, e, hg, hc, r⟩⟩ := h
  · exact ⟨h1, .inl h2⟩
  · have := (Array.getElem?_eq_some_iff.1 hc).1
    exact ⟨h1, .inr ⟨g, cap, cur, e, hg, by rw [hW.block g (by omega) (by omega)]; exact hc, r⟩⟩

namespace Tp
/-- the first line of a group, the line behind it -/
def loF (c : Int) (g : List H) : Nat := (max ((g.head?.getD ⟨0, [], []⟩).at' - c) 0).toNat
def hiF (t : List ByteArray) (c : Int) (g : List H) : Nat := (min (en (g.getLast?.getD ⟨0, [], []⟩) + c) (t.length : Int)).toNat
end Tp
/-- the diff of groups -/
def fmB (t : List ByteArray) (c : Int) : Int → List (List Tp.H) → List UInt8
  | _, [] => []
  | g, x :: r => hdB (Tp.loF c x) ((Tp.loF c x : Int) + g).toNat (Tp.hiF t c x) ((Tp.hiF t c x : Int) + (g + Tp.gr x)).toNat ++ [10] ++ wgB t (Tp.loF c x) x (Tp.hiF t c x) ++ fmB t c (g + Tp.gr x) r
/-- one group can be written -/
structure Fm1 (N : Nat) (t : List ByteArray) (c g : Int) (x : List Tp.H) : Prop where
  ne : x ≠ []
  wg : Wg t (Tp.loF c x) x (Tp.hiF t c x)
  lh : Tp.loF c x ≤ Tp.hiF t c x
  g0 : 0 ≤ (Tp.loF c x : Int) + g
  g1 : (Tp.loF c x : Int) + g ≤ (Tp.hiF t c x : Int) + (g + Tp.gr x)
  n1 : Tp.hiF t c x < N
  n2 : (Tp.hiF t c x : Int) + (g + Tp.gr x) < N
  ln : x.length ≤ 130
  bd : ∀ h ∈ x, 0 ≤ h.at' ∧ h.at' ≤ 120 ∧ h.old.length ≤ 120 ∧ h.new.length ≤ 120
  sz : (wgB t (Tp.loF c x) x (Tp.hiF t c x)).length ≤ 200000
def FmOk (N : Nat) (t : List ByteArray) (c : Int) : Int → List (List Tp.H) → Prop
  | _, [] => True
  | g, x :: r => Fm1 N t c g x ∧ FmOk N t c (g + Tp.gr x) r
theorem fmB_step (t : List ByteArray) (c g : Int) (G : List (List Tp.H)) (k : Nat) (h : k < G.length) : fmB t c g (G.drop k) = hdB (Tp.loF c G[k]) ((Tp.loF c G[k] : Int) + g).toNat (Tp.hiF t c G[k]) ((Tp.hiF t c G[k] : Int) + (g + Tp.gr G[k])).toNat ++ [10] ++ wgB t (Tp.loF c G[k]) G[k] (Tp.hiF t c G[k]) ++ fmB t c (g + Tp.gr G[k]) (G.drop (k + 1)) := by
  rw [List.drop_eq_getElem_cons h]; rfl
theorem fmOk_step {N : Nat} {t : List ByteArray} {c g : Int} {G : List (List Tp.H)} {k : Nat} (h : k < G.length) (H : FmOk N t c g (G.drop k)) : Fm1 N t c g G[k] ∧ FmOk N t c (g + Tp.gr G[k]) (G.drop (k + 1)) := by
  rw [List.drop_eq_getElem_cons h] at H; exact H
/-- Format's results -/
noncomputable def fmC (t : List ByteArray) (hs : List Tp.H) (c : Int) : Int := if Tp.aC hs t ≠ 0 then Tp.aC hs t else if c < 0 ∨ 120 < c then 3 else if 4096 < (fmB t c 0 (Tp.gfold c none [] hs)).length then 10 else 0
noncomputable def fmI (t : List ByteArray) (hs : List Tp.H) (c : Int) : Int := if Tp.aC hs t ≠ 0 then Tp.aI hs t else if c < 0 ∨ 120 < c then -3 else if 4096 < (fmB t c 0 (Tp.gfold c none [] hs)).length then -1 else 0
noncomputable def fmS (t : List ByteArray) (hs : List Tp.H) (c : Int) : ByteArray := if fmC t hs c = 0 then Lin.mk (fmB t c 0 (Tp.gfold c none [] hs)) else ByteArray.empty
theorem fm_app {t : List ByteArray} {hs : List Tp.H} {c : Int} (h : Tp.aC hs t ≠ 0) : fmC t hs c = Tp.aC hs t ∧ fmI t hs c = Tp.aI hs t ∧ fmS t hs c = ByteArray.empty := by
  have e : fmC t hs c = Tp.aC hs t := if_pos h
  exact ⟨e, if_pos h, if_neg (by rw [e]; exact h)⟩
theorem fm_rng {t : List ByteArray} {hs : List Tp.H} {c : Int} (h : Tp.aC hs t = 0) (h2 : c < 0 ∨ 120 < c) : fmC t hs c = 3 ∧ fmI t hs c = -3 ∧ fmS t hs c = ByteArray.empty := by
  have e : fmC t hs c = 3 := by unfold fmC; rw [if_neg (by simp [h]), if_pos h2]
  exact ⟨e, by unfold fmI; rw [if_neg (by simp [h]), if_pos h2], if_neg (by rw [e]; decide)⟩
theorem fm_big {t : List ByteArray} {hs : List Tp.H} {c : Int} (h : Tp.aC hs t = 0) (h2 : ¬ (c < 0 ∨ 120 < c)) (h3 : 4096 < (fmB t c 0 (Tp.gfold c none [] hs)).length) : fmC t hs c = 10 ∧ fmI t hs c = -1 ∧ fmS t hs c = ByteArray.empty := by
  have e : fmC t hs c = 10 := by unfold fmC; rw [if_neg (by simp [h]), if_neg h2, if_pos h3]
  exact ⟨e, by unfold fmI; rw [if_neg (by simp [h]), if_neg h2, if_pos h3], if_neg (by rw [e]; decide)⟩
theorem fm_ok {t : List ByteArray} {hs : List Tp.H} {c : Int} (h : Tp.aC hs t = 0) (h2 : ¬ (c < 0 ∨ 120 < c)) (h3 : ¬ 4096 < (fmB t c 0 (Tp.gfold c none [] hs)).length) : fmC t hs c = 0 ∧ fmI t hs c = 0 ∧ fmS t hs c = Lin.mk (fmB t c 0 (Tp.gfold c none [] hs)) := by
  have e : fmC t hs c = 0 := by unfold fmC; rw [if_neg (by simp [h]), if_neg h2, if_neg h3]
  exact ⟨e, by unfold fmI; rw [if_neg (by simp [h]), if_neg h2, if_neg h3], if_pos e⟩

set_option maxRecDepth 100000 in
set_option maxHeartbeats 8000000 in
theorem format_any (N : Nat) (p pt : Option Addr) (hs : List Tp.H) (t : List ByteArray) (cap ct : Nat) (c : Int) (w : World) (IT : ItoaTo N w) (hN : N ≤ 1000) (hp : Ptc w p hs) (hl : hs.length ≤ 2513169434845) (hq : Sts w pt t) (hc' : pt = none → ct = 0) (ht : t.length ≤ ct)
    (hF : Tp.aC hs t = 0 → ¬ (c < 0 ∨ 120 < c) → FmOk N t c 0 (Tp.gfold c none [] hs) ∧ (Tp.gfold c none [] hs).length ≤ 130) :
    Calls Tryd.prog 4 #[.slice pt t.length ct, .agg #[.slice p hs.length cap], .int .i64 c] w (BPost (.tuple #[.string (fmS t hs c), .agg #[.int .i64 (fmC t hs c), .int .i64 (fmI t hs c)]]) w) := by
  have HP := Lib.hid hp
  have HQ := Lib.hid hq
  have HC := Lib.hid hc'
  have HT := Lib.hid ht
  have HF := Lib.hid hF
  have HI := Lib.hid IT
  clear hp hq hc' ht hF IT
  have up0 : Below w.heap.size w ((w.alloc (.cells #[.slice p hs.length cap] 25 (0, 0))).alloc (.cells #[.int .i64 0, .int .i64 0] 27 (0, 0))) := up_alloc (up_alloc (Below.refl _ _) _) _
  have O0 : Hid (One ((w.alloc (.cells #[.slice p hs.length cap] 25 (0, 0))).alloc (.cells #[.int .i64 0, .int .i64 0] 27 (0, 0))) w.heap.size (.slice p hs.length cap)) := Lib.hid ((One.new w (.slice p hs.length cap) 25 w.heap.size rfl).alloc _)
  have F0 : Hid (Flt ((w.alloc (.cells #[.slice p hs.length cap] 25 (0, 0))).alloc (.cells #[.int .i64 0, .int .i64 0] 27 (0, 0))) (w.heap.size + 1) 0 0) := by
    have := Flt.new (w.alloc (.cells #[.slice p hs.length cap] 25 (0, 0))) 0 0 27
    rwa [World.size_alloc] at this
  go_enter Tryd.func4, Tryd.ntmps4
  go_wp2_with fail
  refine (tpApply_any p pt hs t _ cap _ ct _ rfl rfl (HP.out.mono up0) hl (HQ.out.mono up0) HC.out HT.out).mono ?_
  rintro e w1 ⟨vs, rfl, own1, hb1⟩
  obtain ⟨ps, cs, rfl, -, -⟩ := ownS_shape own1
  have u1 := up_call up0 hb1
  have O1 := Lib.hid (O0.out.up hb1)
  have F1 := Lib.hid (F0.out.up hb1)
  have hz1 := u1.size
  clear up0 hb1 O0 F0 own1
  by_cases ha : Tp.aC hs t = 0
  · have hai := Tp.aI_zero ha
    have HA := Lib.hid ha
    rw [ha, hai]
    clear ha hai
    have v1 := up_alloc u1 (.cells #[.int .i64 0, .int .i64 0] 27 (0, 0))
    have O2 := Lib.hid (O1.out.alloc (.cells #[.int .i64 0, .int .i64 0] 27 (0, 0)))
    have F2 := Lib.hid (F1.out.alloc (.cells #[.int .i64 0, .int .i64 0] 27 (0, 0)))
    have hf1 := F1.out.lt
    by_cases hr : c < 0 ∨ 120 < c
    · have E := Lib.hid (fm_rng HA.out hr)
      obtain ⟨d0, d1, -, -, -⟩ := (F1.out.set2 3 (-3)).alloc (.cells #[.int .i64 0, .int .i64 0] 27 (0, 0))
      obtain ⟨a0, a1, a2, a3, a4⟩ := F1.out
      by_cases h0 : c < 0
      · have g0 : decide (c < 0) = true := decide_eq_true h0
        clear hr h0
        go_wp2_with fail
        refine bodyPost_ret (v := .tuple #[.string ByteArray.empty, .agg #[.int .i64 3, .int .i64 (-3)]]) (by simp [results, Tryd.results4, go_sem, d0, d1]; rfl) rfl ⟨by rw [E.out.1, E.out.2.1, E.out.2.2], ?_⟩
        (repeat' (first | (with_reducible exact Below.refl _ _) | (with_reducible assumption) | (with_reducible refine below_drewN ?_ _) | (with_reducible refine Below.setCell ?_ ?_ _) | (with_reducible refine Below.alloc ?_ ?_ _) | (with_reducible refine Below.drew ?_) | go_size))
      · have g0 : decide (c < 0) = false := decide_eq_false h0
        have g1 : decide (120 < c) = true := decide_eq_true (by omega)
        clear hr h0
        go_wp2_with fail
        refine bodyPost_ret (v := .tuple #[.string ByteArray.empty, .agg #[.int .i64 3, .int .i64 (-3)]]) (by simp [results, Tryd.results4, go_sem, d0, d1]; rfl) rfl ⟨by rw [E.out.1, E.out.2.1, E.out.2.2], ?_⟩
        (repeat' (first | (with_reducible exact Below.refl _ _) | (with_reducible assumption) | (with_reducible refine below_drewN ?_ _) | (with_reducible refine Below.setCell ?_ ?_ _) | (with_reducible refine Below.alloc ?_ ?_ _) | (with_reducible refine Below.drew ?_) | go_size))
    · obtain ⟨E1, E2⟩ := HF.out HA.out hr
      obtain ⟨C, rfl⟩ : ∃ C : Nat, c = C := ⟨c.toNat, by omega⟩
      have hC : C ≤ 120 := by omega
      have HR := Lib.hid hr
      have gr1 : decide ((C : Int) < 0) = false := decide_eq_false (by omega)
      have gr2 : decide ((120 : Int) < (C : Int)) = false := decide_eq_false (by omega)
      have ok := Tp.aC_zero.1 HA.out
      have HB0 : Hid (∀ h ∈ hs, 0 ≤ h.at' ∧ h.at' ≤ 120 ∧ h.old.length ≤ 120) := Lib.hid (fun h hh => by
        obtain ⟨k, hk, rfl⟩ := List.getElem_of_mem hh
        obtain ⟨⟨pr, hok⟩, -⟩ := Tp.ch_at ok.vp.ch k hk
        exact ⟨hok.lo, hok.hi, (Lin.vC_zero hok.old).1⟩)
      have lt := (Lin.vC_zero ok.vt).1
      have T80 : Hid (∀ s ∈ t, s.size ≤ 80) := Lib.hid (fun s hs => (Lin.lc_zero ((Lin.vC_zero ok.vt).2 s hs)).1)
      have hl1 := ok.vp.len
      have oc := O2.out.c
      clear hr O1 F1
      have v2 := Lib.hid (up_alloc v1 (.cells #[.pointer none, .slice none 0 0] 42 (0, 0)))
      have O3 := Lib.hid (O2.out.alloc (.cells #[.pointer none, .slice none 0 0] 42 (0, 0)))
      have F3 := Lib.hid (F2.out.alloc (.cells #[.pointer none, .slice none 0 0] 42 (0, 0)))
      have XB : ((w1.alloc (.cells #[.int .i64 0, .int .i64 0] 27 (0, 0))).alloc (.cells #[.pointer none, .slice none 0 0] 42 (0, 0))).heap[w1.heap.size + 1]? = some (.cells #[.pointer none, .slice none 0 0] 42 (0, 0)) := by
        have := hunk_blk (w1.alloc (.cells #[.int .i64 0, .int .i64 0] 27 (0, 0))) #[.pointer none, .slice none 0 0] 42
        rwa [World.size_alloc] at this
      have oc3 := O3.out.c
      go_wp2_with fail
      obtain ⟨W2, hW2⟩ : ∃ W2, W2 = (w1.alloc (.cells #[.int .i64 0, .int .i64 0] 27 (0, 0))).alloc (.cells #[.pointer none, .slice none 0 0] 42 (0, 0)) := ⟨_, rfl⟩
      have HZ2 : W2.heap.size = w1.heap.size + 2 := by rw [hW2]; simp
      rw [← hW2] at v2 O3 F3 oc3 XB ⊢
      clear hW2 oc oc3 v1 O2 F2
      refine (groupsOf_any p hs hs.length cap C w W2 rfl HP.out v2.out hl1 hC HB0.out).mono ?_
      rintro e w3 ⟨v, L, rfl, hG, hgf, hb3⟩
      obtain ⟨pv, cv, rfl, hrow, -, -, -⟩ := row_of_own hG.own
      obtain ⟨G, hGd⟩ : ∃ G, G = L.map (·.2.1) := ⟨_, rfl⟩
      rw [← hgf, ← hGd] at E1 E2
      have hz3 := hb3.size
      have lL : (L.map (·.1)).length = G.length := by rw [hGd, List.length_map, List.length_map]
      have I3 : Hid (Bld w3.heap.size (w1.heap.size + 1) [] w3) := Lib.hid ⟨by omega, Nat.le_refl _, _, _, .inl rfl, by rw [hb3.block _ (by omega)]; exact XB, World.ownsRow_nil _ _ _ _⟩
      have u3 := Lib.hid (up_call v2.out hb3)
      have F4 := Lib.hid (F3.out.up hb3)
      have EG := Lib.hid (And.intro E1 (hGd.trans hgf))
      have LG : Hid (L.length = G.length ∧ ∀ k (hk : k < L.length) (hk' : k < G.length), G[k] = L[k].2.1) := Lib.hid ⟨by rw [hGd, List.length_map], fun k hk hk' => by subst hGd; simp⟩
      have GA := Lib.hid hG
      have VO := Lib.hid hG.own
      have HZ2' := Lib.hid HZ2
      have E2' : G.length ≤ 130 := E2
      have hb21 : w1.heap.size + 1 < W2.heap.size := by omega
      have hw1 : w.heap.size ≤ w1.heap.size + 1 := by omega
      rw [lL]
      clear hrow hGd hgf E1 E2 lL hb3 hG XB HZ2 v2 F3 O3 lt
      go_wp2_with fail
      go_loopw [11, 39] (fun gr i wr => ∃ (k : Nat) (g : Int) (cs : List UInt8), k ≤ G.length ∧ i = .int .i64 k ∧ gr = .int .i64 g ∧ Hid (Bld w3.heap.size (w1.heap.size + 1) (Lib.byteCells cs) wr) ∧ Hid (Bf w3.heap.size (w1.heap.size + 1) w3 wr) ∧ Hid (cs.length ≤ k * 200100 ∧ -1000000 ≤ g ∧ g ≤ 1000000) ∧ Hid (FmOk N t C g (G.drop k)) ∧ Hid (cs ++ fmB t C g (G.drop k) = fmB t C 0 G)) (fun _ i _ => G.length - (intOf i).toNat)
      case atStart => exact ⟨0, 0, [], Nat.zero_le _, rfl, rfl, I3, Lib.hid (Bf.refl _ _ _), Lib.hid (by simp), Lib.hid EG.out.1, Lib.hid rfl⟩
      case round =>
        clear I3
        obtain ⟨k, g, cs, hk, rfl, rfl, hI, hB, hL, hO, hE⟩ := hrel
        have b0 : (0 : Int) ≤ (k : Int) := by omega
        have uw := Lib.hid (u3.out.trans ((hB.out.below (by omega)).mono hw1))
        by_cases hlt : k < G.length
        · have g1 : decide (k < G.length) = true := by simpa using hlt
          have b1 : (k : Int) < (G.length : Int) := by omega
          have kL : k < L.length := by have := LG.out.1; omega
          have eG := LG.out.2 k kL hlt
          obtain ⟨f1, fr⟩ := fmOk_step hlt hO.out
          have fs := fmB_step t C g G k hlt
          obtain ⟨o1, rw1⟩ := GA.out.each _ (List.getElem_mem kL)
          have vrow := VO.out.bf hB.out (Nat.le_refl _) hb21
          have orow := o1.bf hB.out (Nat.le_refl _) hb21
          have ir0 : ∀ W, Bf w3.heap.size (w1.heap.size + 1) w3 W → ∀ (s1 : Option Addr) (s2 s3 : Nat) (gh : List Tp.H) (raws : List (Int × Sv × Sv)), ((s1, s2, s3), gh, raws) = L[k] → Row hkE W s1 raws := fun W hW s1 s2 s3 gh raws e => by
            have o2 := o1.bf hW (Nat.le_refl _) hb21
            rw [← e] at o2
            obtain ⟨p', c', e', r', -⟩ := row_of_own o2
            simp only [sv, Value.slice.injEq] at e'
            rw [e'.1]; exact r'
          obtain ⟨pv', cv', ev, hvr, -, -, -⟩ := row_of_own vrow
          simp only [Value.slice.injEq] at ev
          obtain ⟨rfl, -, -⟩ := ev
          obtain ⟨gb, goff, rfl, hgb, hgc⟩ := hvr.cell (i := k) (by rw [List.length_map]; exact kL)
          have gc := hgc 0 (sv L[k].1) (by simp [svE])
          rw [show svE.size = 1 from rfl, Nat.mul_one, Nat.add_zero] at gc
          clear hgc vrow hvr o1
          obtain ⟨⟨⟨s1, s2, s3⟩, gh, raws⟩, hX⟩ : ∃ X, X = L[k]'kL := ⟨_, rfl⟩
          have ir := fun W hW => ir0 W hW s1 s2 s3 gh raws hX
          clear ir0
          rw [← hX] at eG rw1 orow gc
          dsimp only at eG rw1 orow gc
          rw [eG] at f1 fr fs
          clear hX eG
          obtain ⟨ip, icap, ei, hir, -, -, -⟩ := row_of_own orow
          simp only [sv, Value.slice.injEq] at ei gc
          obtain ⟨rfl, rfl, rfl⟩ := ei
          have lgr := rw1.len
          have ghn : 0 < gh.length := by have := f1.ne; cases gh with | nil => exact (this rfl).elim | cons a r => simp
          obtain ⟨ib, ioff, rfl, hib, hic⟩ := hir.at' (by intro e; rw [e] at lgr; simp at lgr; omega)
          obtain ⟨m, hm⟩ : ∃ m, raws.length = m + 1 := ⟨raws.length - 1, by omega⟩
          have c00 : wr.cell? ⟨ib, ioff, none⟩ = some (.int .i64 (raws[0]'(by omega)).1) := by
            have := hic 0 (by omega) 0 _ rfl
            simpa using this
          have c10 : wr.cell? ⟨ib, ioff + m * 3, none⟩ = some (.int .i64 (raws[m]'(by omega)).1) := hic m (by omega) 0 _ rfl
          have c11 : wr.cell? ⟨ib, ioff + m * 3 + 1, none⟩ = some (sv (raws[m]'(by omega)).2.1) := hic m (by omega) 1 _ rfl
          have c12 : wr.cell? ⟨ib, ioff + m * 3 + 2, none⟩ = some (sv (raws[m]'(by omega)).2.2) := hic m (by omega) 2 _ rfl
          obtain ⟨x0, -, -⟩ := rw1.each 0 (by omega) (by omega)
          obtain ⟨y0, y1, y2⟩ := rw1.each m (by omega) (by omega)
          have eh : gh.head?.getD ⟨0, [], []⟩ = gh[0] := by rw [List.head?_eq_getElem?]; simp [ghn]
          have el : gh.getLast?.getD ⟨0, [], []⟩ = gh[m]'(by omega) := by
            rw [List.getLast?_eq_getElem?, show gh.length - 1 = m by omega]
            simp [show m < gh.length by omega]
          obtain ⟨bl1, bl2, bl3, bl4⟩ := f1.bd _ (List.getElem_mem (show m < gh.length by omega))
          obtain ⟨bf1, bf2, -, -⟩ := f1.bd _ (List.getElem_mem (show 0 < gh.length by omega))
          have qlo : (max (gh[0].at' - (C : Int)) 0) = (Tp.loF C gh : Int) := by unfold Tp.loF; rw [eh]; omega
          have qhi : (min ((gh[m]'(by omega)).at' + ((gh[m]'(by omega)).old.length : Int) + (C : Int)) (t.length : Int)) = (Tp.hiF t C gh : Int) := by unfold Tp.hiF; rw [el]; unfold Tp.en; omega
          obtain ⟨lo, hlo⟩ : ∃ lo, lo = Tp.loF C gh := ⟨_, rfl⟩
          obtain ⟨hi, hhi⟩ : ∃ hi, hi = Tp.hiF t C gh := ⟨_, rfl⟩
          obtain ⟨⟨za, oa, na⟩, hza⟩ : ∃ x, x = gh[0] := ⟨_, rfl⟩
          obtain ⟨⟨zl, ol, nl⟩, hzl⟩ : ∃ x, x = gh[m]'(by omega) := ⟨_, rfl⟩
          obtain ⟨⟨ra, rb, rc⟩, hra⟩ : ∃ x, x = raws[0]'(by omega) := ⟨_, rfl⟩
          obtain ⟨⟨rl, ⟨p1, p2, p3⟩, ⟨n1, n2, n3⟩⟩, hrl⟩ : ∃ x, x = raws[m]'(by omega) := ⟨_, rfl⟩
          rw [← hra] at c00 x0
          rw [← hrl] at c10 c11 c12 y0 y1 y2
          rw [← hza] at x0 qlo bf1 bf2
          rw [← hzl] at y0 y1 y2 qhi bl1 bl2 bl3 bl4
          rw [← hlo] at qlo fs
          rw [← hhi] at qhi fs
          dsimp only at x0 y0 y1 y2 qlo qhi bl1 bl2 bl3 bl4 bf1 bf2 c00 c10 c11 c12
          subst x0 y0
          have e1 := y1.len
          have e2 := y2.len
          dsimp only at e1 e2
          subst e1 e2
          simp only [sv] at c11 c12
          have wz : IntKind.i64.wrap (ra - (C : Int)) = ra - (C : Int) := IntWalk.i64_in _ (by omega)
          have lnr : raws.length ≤ 130 := by have := f1.ln; omega
          have wm : IntKind.i64.wrap ((raws.length : Int) - 1) = (m : Int) := by rw [IntWalk.i64_in _ (by omega)]; omega
          have m0 : (0 : Int) ≤ (m : Int) := Int.natCast_nonneg _
          have m1 : (m : Int) < (raws.length : Int) := by omega
          have m2 : (0 : Int) < (raws.length : Int) := by omega
          have gb := Tp.gr_bound gh (fun h hh => ⟨(f1.bd h hh).2.2.1, (f1.bd h hh).2.2.2⟩)
          obtain ⟨l1, l2, l3⟩ := hL.out
          have fln := f1.ln
          have fg0 := f1.g0
          have fg1 := f1.g1
          have fn1 := f1.n1
          have fn2 := f1.n2
          have flh := f1.lh
          have fwg := f1.wg
          have fsz := f1.sz
          rw [← hlo] at fg0 fg1 flh fwg fsz
          rw [← hhi] at fg1 fn1 fn2 flh fwg fsz
          obtain ⟨gq, hgq⟩ : ∃ gq, gq = g + Tp.gr gh := ⟨_, rfl⟩
          rw [← hgq] at fg1 fn2 fs fr
          obtain ⟨lb, hlb⟩ : ∃ lb : Nat, (lo : Int) + g = lb := ⟨((lo : Int) + g).toNat, by omega⟩
          obtain ⟨hd, hhd⟩ : ∃ hd : Nat, (hi : Int) + gq = hd := ⟨((hi : Int) + gq).toNat, by omega⟩
          rw [hlb, hhd, Int.toNat_natCast, Int.toNat_natCast] at fs
          have wlb : IntKind.i64.wrap ((lo : Int) + g) = (lb : Int) := by rw [IntWalk.i64_in _ (by omega)]; exact hlb
          have whd : IntKind.i64.wrap ((hi : Int) + gq) = (hd : Int) := by rw [IntWalk.i64_in _ (by omega)]; exact hhd
          have wgq : IntKind.i64.wrap (g + Tp.gr gh) = gq := by rw [IntWalk.i64_in _ (by omega)]; exact hgq.symm
          have whi : IntKind.i64.wrap (rl + (ol.length : Int) + (C : Int)) = rl + (ol.length : Int) + (C : Int) := IntWalk.i64_in _ (by omega)
          have GQB : Hid (-1000000 ≤ gq ∧ gq ≤ 1000000) := Lib.hid ⟨by omega, by omega⟩
          have HDL : (hdB lo lb hi hd).length ≤ 30 := by
            have h1 := rg_len hN fn1 flh
            have h2 := rg_len (a := lb) (b := hd) hN (by omega) (by omega)
            unfold hdB; simp only [List.length_append, List.length_cons, List.length_nil]; omega
          have HD0 := Lib.hid (fun W hW => headerOf_any N lo lb hi hd w W HI.out flh (by omega) fn1 (by omega) hN hW)
          obtain ⟨hx, hhx⟩ : ∃ hx, hx = Lin.mk (hdB lo lb hi hd) := ⟨_, rfl⟩
          have hxs : hx.size ≤ 30 := by rw [hhx, mk_size]; exact HDL
          have hxe : Hid ((hx ++ (⟨#[10]⟩ : ByteArray)).data.toList = hdB lo lb hi hd ++ [10]) := Lib.hid (by
            have e : (⟨#[10]⟩ : ByteArray) = Lin.mk [10] := rfl
            rw [hhx, e, mk_app, Lin.mk_data])
          have hxz : Hid ((hx ++ (⟨#[10]⟩ : ByteArray)).size ≤ 31) := Lib.hid (by
            have e : (⟨#[10]⟩ : ByteArray) = Lin.mk [10] := rfl
            rw [hhx, e, mk_app, mk_size, List.length_append, List.length_cons, List.length_nil]; omega)
          rw [← hhx] at HD0
          have FS := Lib.hid fs
          have FR := Lib.hid fr
          have RW := Lib.hid rw1
          have LGR := Lib.hid lgr
          have IR := Lib.hid ir
          have FB := Lib.hid f1.bd
          have FWG := Lib.hid fwg
          have LL := Lib.hid (And.intro l1 (And.intro fsz HDL))
          have qlo' := qlo
          have qhi' := qhi
          clear f1 fr rw1 lgr hir orow eh el hic y1 y2 hm hza hzl hra hrl hlo hhi hhx fwg fsz HDL l1 l2 l3 fs hgq hlb hhd fg0 fg1 fn1 fn2 gb ir bf1 bf2 bl4 ghn qlo' qhi'
          go_wp2_with fail
          refine (uend_any rl p1 n1 ol.length p3 nl.length n3 _ (by omega) (by omega) (by omega)).mono ?_
          rintro e w4 ⟨rfl, hb4⟩
          have B4 := Lib.hid (hB.out.trans (bf_below hb4 hI.out.sz))
          have I4 := Lib.hid (hI.out.up hb4)
          have K4 := Lib.hid (Flt.new w4 (lo : Int) (lb : Int) 49)
          have hb4' := up_alloc (Below.refl w4.heap.size w4) (.cells #[.int .i64 (lo : Int), .int .i64 (lb : Int)] 49 (0, 0))
          have B5 := Lib.hid (B4.out.trans (bf_below hb4' I4.out.sz))
          have I5 := Lib.hid (I4.out.up hb4')
          clear hb4 hb4' c00 c10 c11 c12 gc
          go_wp2_with fail
          obtain ⟨W5, hW5⟩ : ∃ W5, W5 = w4.alloc (.cells #[.int .i64 (lo : Int), .int .i64 (lb : Int)] 49 (0, 0)) := ⟨_, rfl⟩
          rw [← hW5] at K4 B5 I5 ⊢
          clear hW5 B4 I4
          have U5 := Lib.hid (u3.out.trans ((B5.out.below (by omega)).mono hw1))
          refine (growthOf_any (some ⟨ib, ioff, none⟩) gh raws.length s3 W5 LGR.out ((RW.out.mono U5.out).ptc (IR.out W5 B5.out)) (by omega) (fun h hh => ⟨(FB.out h hh).2.2.1, (FB.out h hh).2.2.2⟩)).mono ?_
          rintro e w6 ⟨rfl, hb6⟩
          have B6 := Lib.hid (B5.out.trans (bf_below hb6 I5.out.sz))
          have I6 := Lib.hid (I5.out.up hb6)
          have U6 := Lib.hid (up_call U5.out hb6)
          obtain ⟨k0, k1, k2, k3, k4⟩ := K4.out.up hb6
          clear hb6 B5 I5 U5 K4
          go_wp2_with fail
          refine (HD0.out _ U6.out).mono ?_
          rintro e w7 ⟨rfl, hb7⟩
          have B7 := Lib.hid (B6.out.trans (bf_below hb7 I6.out.sz))
          have I7 := Lib.hid (I6.out.up hb7)
          clear hb7 B6 I6 U6 k0 k1 k2 k3 k4
          go_wp2_with fail
          obtain ⟨l1, l2, l3⟩ := LL.out
          have HW := bldStr_any w3.heap.size (w1.heap.size + 1) (Lib.byteCells cs) (hx ++ ⟨#[10]⟩) w7 I7.out (by rw [Lib.byteCells_length]; have := hxz.out; omega)
          with_reducible refine Calls.mono HW ?_
          clear HW
          rintro e w8 ⟨rfl, i8, f8⟩
          have e8 : Lib.strCells (hx ++ (⟨#[10]⟩ : ByteArray)) = Lib.byteCells (hdB lo lb hi hd ++ [10]) := by rw [← hxe.out]; rfl
          rw [e8, ← Lib.byteCells_append] at i8
          have I8 := Lib.hid i8
          have B8 := Lib.hid (B7.out.trans f8)
          clear i8 f8 e8 B7 I7
          go_wp2_with fail
          have U8 := Lib.hid (u3.out.trans ((B8.out.below (by omega)).mono hw1))
          have HG2 := writeGroup_any w3.heap.size (w1.heap.size + 1) _ pt (some ⟨ib, ioff, none⟩) t gh raws raws.length s3 ct lo hi w w8 LGR.out (fun W hW => IR.out W (B8.out.trans hW)) RW.out U8.out hw1 HQ.out T80.out (Lin.vC_zero (Tp.aC_zero.1 HA.out).vt).1 HT.out (by have := LGR.out; omega) FWG.out I8.out (by rw [Lib.byteCells_length, List.length_append, List.length_append]; simp; omega)
          with_reducible refine Calls.mono HG2 ?_
          clear HG2
          rintro e w9 ⟨rfl, i9, f9⟩
          rw [← Lib.byteCells_append] at i9
          have I9 := Lib.hid i9
          have B9 := Lib.hid (B8.out.trans f9)
          have LK : Hid (((cs ++ (hdB lo lb hi hd ++ [10])) ++ wgB t lo gh hi).length ≤ (k + 1) * 200100 ∧ -1000000 ≤ gq ∧ gq ≤ 1000000) := Lib.hid ⟨by rw [List.length_append, List.length_append, List.length_append]; simp; omega, GQB.out.1, GQB.out.2⟩
          have EK : Hid (((cs ++ (hdB lo lb hi hd ++ [10])) ++ wgB t lo gh hi) ++ fmB t C gq (G.drop (k + 1)) = fmB t C 0 G) := Lib.hid (by rw [← hE.out, FS.out]; simp only [List.append_assoc])
          clear i9 f9 B8 I8 l1 l2 l3
          go_wp2_with fail
          go_roundw
          case rel => exact ⟨k + 1, gq, _, hlt, by go_num, rfl, I9, B9, LK, FR, EK⟩
          case measure => first | (simp [intOf]; done) | (simp [intOf]; omega)
        · have g1 : decide (k < G.length) = false := by simpa using hlt
          have hE2 := hE.out
          rw [List.drop_eq_nil_of_le (by omega)] at hE2
          simp only [fmB, List.append_nil] at hE2
          have F5 := Lib.hid (F4.out.mono (hB.out.below (by omega)) (by omega))
          by_cases hbig : 4096 < cs.length
          · have E := Lib.hid (fm_big (c := C) HA.out HR.out (by rw [← EG.out.2, ← hE2]; exact hbig))
            have g2 : decide ((4096 : Int) < ((Lib.byteCells cs).length : Int)) = true := by rw [decide_eq_true_iff, Lib.byteCells_length]; omega
            obtain ⟨d0, d1, -, -, -⟩ := F5.out.set2 10 (-1)
            obtain ⟨a0, a1, a2, a3, a4⟩ := F5.out
            clear hE2 hbig
            go_wp2_with fail
            refine (builderLen_any _ _ _ _ hI.out.is).mono ?_
            rintro e w' ⟨rfl, rfl⟩
            go_wp2_with fail
            refine bodyPost_ret (v := .tuple #[.string ByteArray.empty, .agg #[.int .i64 10, .int .i64 (-1)]]) (by simp [results, Tryd.results4, go_sem, d0, d1]; rfl) rfl ⟨by rw [E.out.1, E.out.2.1, E.out.2.2], ?_⟩
            exact (uw.out.setCell (by dsimp only; omega) _).setCell (by dsimp only; omega) _
          · have E := Lib.hid (fm_ok (c := C) HA.out HR.out (by rw [← EG.out.2, ← hE2]; exact hbig))
            have ES : Hid (fmS t hs C = Lin.mk cs) := Lib.hid (by rw [E.out.2.2, ← EG.out.2, ← hE2])
            have g2 : decide ((4096 : Int) < ((Lib.byteCells cs).length : Int)) = false := by rw [decide_eq_false_iff_not, Lib.byteCells_length]; omega
            clear hE2 hbig
            go_wp2_with fail
            refine (builderLen_any _ _ _ _ hI.out.is).mono ?_
            rintro e w' ⟨rfl, rfl⟩
            go_wp2_with fail
            refine (Tryd.Builder_String_any _ _ _ _ hI.out.is (by have := hI.out.sz; omega)).mono ?_
            rintro e w4 ⟨rfl, hb4⟩
            have FR2 := F5.out.mono hb4 (by omega)
            have u4 := Lib.hid (uw.out.trans (hb4.mono hw1))
            obtain ⟨d0, d1, -, -, -⟩ := FR2.set2 0 0
            obtain ⟨a0, a1, a2, a3, a4⟩ := FR2
            clear hb4
            go_wp2_with fail
            refine bodyPost_ret (v := .tuple #[.string (Lin.mk cs), .agg #[.int .i64 0, .int .i64 0]]) (by simp [results, Tryd.results4, go_sem, d0, d1]; rfl) rfl ⟨by rw [E.out.1, E.out.2.1, ES.out], ?_⟩
            exact (u4.out.setCell (by dsimp only; omega) _).setCell (by dsimp only; omega) _
  · have E := Lib.hid (fm_app (c := c) ha)
    obtain ⟨d0, d1, -, -, -⟩ := (F1.out.set2 (Tp.aC hs t) (Tp.aI hs t)).alloc (.cells #[.int .i64 (Tp.aC hs t), .int .i64 (Tp.aI hs t)] 27 (0, 0))
    obtain ⟨a0, a1, a2, a3, a4⟩ := F1.out
    have hne := ha
    go_wp2_with fail
    go_region
    go_wp2_with fail
    refine bodyPost_ret (v := .tuple #[.string ByteArray.empty, .agg #[.int .i64 (Tp.aC hs t), .int .i64 (Tp.aI hs t)]]) (by simp [results, Tryd.results4, go_sem, d0, d1]; rfl) rfl ⟨by rw [E.out.1, E.out.2.1, E.out.2.2], ?_⟩
    (repeat' (first | (with_reducible exact Below.refl _ _) | (with_reducible assumption) | (with_reducible refine below_drewN ?_ _) | (with_reducible refine Below.setCell ?_ ?_ _) | (with_reducible refine Below.alloc ?_ ?_ _) | (with_reducible refine Below.drew ?_) | go_size))
end Go.Proofs.YtcheggdfcdokiaaDoor
