/-
  The statement 'UnifiedShifted' of this seat holds: for every input within the form's reach the law returns true and its arguments read as they did. No further condition.
-/
import Derived.Test.YteamghlcaalapaaDoorUnI
import Derived.Test.YteamghlcaalapaaDoorUnG
import Derived.Deep.RegionLaw
import Derived.Test.YteamghlcaalapaaDoorRows
import Derived.WalkKit
import Derived.ProofKit
import Derived.OpenShut
import Derived.ShutString
import Derived.ChangeOld
import Derived.Below
import Derived.SizedLaws
import Derived.Test.YteamghlcaalapaaDoorCards
import Derived.Test.YteamghlcaalapaaDoorTie
import Derived.LaidMore
import Derived.SevenTiedAt
namespace Go.Proofs.YteamghlcaalapaaDoor
open Go.RowKit
set_option maxRecDepth 4000

/-- a zero fault in block g -/
def KB (w : World) (g : Nat) : Prop := w.heap[g]? = some (.cells #[.int .i64 0, .int .i64 0] 27 (0, 0))
theorem KB.grown {base g : Nat} {w w' : World} {v : Value} {l : List ByteArray} (h : KB w g) (o : OwnS base w v l) (gr : w.grownBy w' v.ownBlock) : KB w' g := by
  unfold KB at h ⊢
  rw [gr.block g (Array.getElem?_eq_some_iff.1 h).1 ?_]
  · exact h
  · intro e
    obtain ⟨-, ⟨rfl, -⟩ | ⟨g', cap, cur, rfl, -, hc, -⟩⟩ := o
    · cases e
    · cases e
      rw [h] at hc
      simp at hc
theorem KB.up {g : Nat} {w w' : World} (h : KB w g) (hb : Below w.heap.size w w') : KB w' g := by
  unfold KB at h ⊢
  rw [hb.block g (Array.getElem?_eq_some_iff.1 h).1]; exact h
theorem KB.new (w : World) (g : Nat) (hg : g = w.heap.size) : KB (w.alloc (.cells #[.int .i64 0, .int .i64 0] 27 (0, 0))) g := by
  subst hg; exact hunk_blk w _ _
theorem ownS_dr {b : Nat} {w : World} {v : Value} {l : List ByteArray} (h : OwnS b w v l) : OwnS b w.drew v l :=
  ownS_up h (Below.drew (Below.refl _ _))
theorem ownS_al {b : Nat} {w : World} {v : Value} {l : List ByteArray} (h : OwnS b w v l) (o : Obj) : OwnS b (w.alloc o) v l :=
  ownS_up h (up_alloc (Below.refl _ _) o)
theorem KB.lt {w : World} {g : Nat} (h : KB w g) : g < w.heap.size := (Array.getElem?_eq_some_iff.1 h).1
theorem KB.dr {w : World} {g : Nat} (h : KB w g) : KB w.drew g := h.up (Below.drew (Below.refl _ _))
theorem KB.al {w : World} {g : Nat} (h : KB w g) (o : Obj) : KB (w.alloc o) g := h.up (up_alloc (Below.refl _ _) o)
theorem cellU {w : World} {a : Addr} {v : Value} (h : w.cell? a = some v) (o : Obj) : (w.alloc o).cell? a = some v := by
  rw [← h]; exact ((Below.refl w.heap.size w).alloc (Nat.le_refl _) o).cell (cell_block_lt h)
theorem KB.cells {g : Nat} {w : World} (h : KB w g) : w.cell? ⟨g, 0, none⟩ = some (.int .i64 0) ∧ w.cell? ⟨g, 1, none⟩ = some (.int .i64 0) ∧ w.frozen? ⟨g, 0, none⟩ = false ∧ w.frozen? ⟨g, 1, none⟩ = false ∧ g < w.heap.size :=
  ⟨by rw [Lib.cell_of_heap h]; rfl, by rw [Lib.cell_of_heap h]; rfl, Lib.frozen_of_heap h 0, Lib.frozen_of_heap h 1, (Array.getElem?_eq_some_iff.1 h).1⟩

theorem toV {P : World → Prop} (W : World) (A : World → Prop) (h : A W) (k : ∀ V, A V → P V) : P W := k W h
/-- an operation whose guard holds -/
theorem wp_unguard {ops : Array Oper} {rest : List Oper} {o : Oper} {a : Act} {Q : Exit → Act → World → Prop} {w : World} (hw : Region.wanted o (yielded ops a.tmps) = true)
    (h : wpList Tryd.prog ops Q ({ o with guard := none } :: rest) a w) : wpList Tryd.prog ops Q (o :: rest) a w := by
  unfold wpList at h ⊢
  rw [if_pos hw]
  rw [if_pos (by rfl)] at h
  exact h
/-- what is known where Fuzzy has returned -/
def Fin (Z0 : World) (B g : Nat) (q : Option Addr) (cq : Nat) (r : Option Addr) (cr m : Nat) (L : List ByteArray) (k : Int) (V : World) : Prop :=
  Below Z0.heap.size Z0 V ∧ Z0.heap.size ≤ B ∧ OwnS B V (.slice q m cq) L ∧ OwnE intE B V (.slice r 1 cr) [k] ∧ V.cell? ⟨g, 0, none⟩ = some (.int .i64 0)
theorem Fin.set {Z0 w8 : World} {B g : Nat} {q : Option Addr} {cq : Nat} {r : Option Addr} {cr m : Nat} {L : List ByteArray} {k : Int} (h1 : Below Z0.heap.size Z0 w8) (h2 : OwnS B w8 (.slice q m cq) L)
    (h3 : OwnE intE B w8 (.slice r 1 cr) [k]) (hk : KB w8 g) (hg : g < B) (hz : Z0.heap.size ≤ g) (u : Value) : Fin Z0 B g q cq r cr m L k ((w8.setCell ⟨g, 0, none⟩ (.int .i64 0)).setCell ⟨g, 1, none⟩ u) := by
  obtain ⟨c0, c1, -, -, -⟩ := hk.cells
  refine ⟨(h1.setCell (by dsimp only; omega) _).setCell (by dsimp only; omega) _, by omega, ownsRow_setCell_below (ownsRow_setCell_below h2 (a := ⟨g, 0, none⟩) (by dsimp only; omega) _) (a := ⟨g, 1, none⟩) (by dsimp only; omega) _,
    ownsRow_setCell_below (ownsRow_setCell_below h3 (a := ⟨g, 0, none⟩) (by dsimp only; omega) _) (a := ⟨g, 1, none⟩) (by dsimp only; omega) _, ?_⟩
  rw [World.cell?_setCell_other (h := by intro e; cases e), World.cell?_setCell_same (h := c0)]
theorem Fin.new {Z0 w8 : World} {B : Nat} {q : Option Addr} {cq : Nat} {r : Option Addr} {cr m : Nat} {L : List ByteArray} {k : Int} (h1 : Below Z0.heap.size Z0 w8) (h2 : OwnS B w8 (.slice q m cq) L)
    (h3 : OwnE intE B w8 (.slice r 1 cr) [k]) (hz : Z0.heap.size ≤ B) (u : Value) (t : TypeId) : Fin Z0 B w8.heap.size q cq r cr m L k (w8.alloc (.cells #[.int .i64 0, u] t (0, 0))) :=
  ⟨up_alloc h1 _, hz, ownS_up h2 (up_alloc (Below.refl _ _) _), h3.up (up_alloc (Below.refl _ _) _), by rw [Lib.cell_of_heap (hunk_blk w8 _ _)]; rfl⟩
theorem ownE_gr {α : Type} {e : Enc α} {B : Nat} {w w' : World} {v u : Value} {l : List α} (h : OwnE e B w v l) (gr : w.grownBy w' u.ownBlock) (hu : ∀ b, u.ownBlock = some b → b < B) : OwnE e B w' v l := by
  obtain ⟨h1, h2 | ⟨g, cap, cur, e, hg, hc, r⟩⟩ := h
  · exact ⟨h1, .inl h2⟩
  · exact ⟨h1, .inr ⟨g, cap, cur, e, hg, by rw [gr.block g (Array.getElem?_eq_some_iff.1 hc).1 (fun e => by have := hu _ e.symm; omega)]; exact hc, r⟩⟩
theorem ownS_gr {B : Nat} {w w' : World} {v u : Value} {l : List ByteArray} (h : OwnS B w v l) (gr : w.grownBy w' u.ownBlock) (hu : ∀ b, u.ownBlock = some b → b < B) : OwnS B w' v l := by
  obtain ⟨h1, h2 | ⟨g, cap, cur, e, hg, hc, r⟩⟩ := h
  · exact ⟨h1, .inl h2⟩
  · exact ⟨h1, .inr ⟨g, cap, cur, e, hg, by rw [gr.block g (Array.getElem?_eq_some_iff.1 hc).1 (fun e => by have := hu _ e.symm; omega)]; exact hc, r⟩⟩
theorem row_int1 (w : World) (n : Int) (t : TypeId) (H : Nat) (hH : w.heap.size = H) : Row intE (w.alloc (.cells #[.int .i64 n] t (0, 0))) (some ⟨H, 0, none⟩) [n] := by
  subst hH
  refine ⟨fun h => (by cases h), fun _ => ⟨w.heap.size, 0, rfl, (by simp), fun i hi k u hu => ?_⟩⟩
  have e : i = 0 := by simpa using hi
  subst e
  have := int_one w w.heap.size rfl n t k u hu
  rw [add_at] at this
  simpa [Nat.zero_mul] using this

set_option maxRecDepth 100000 in
set_option maxHeartbeats 8000000 in
theorem shifted_walk (pt : Option Addr) (t : List ByteArray) (ct : Nat) (p : Option Addr) (hs : List Tp.H) (cap : Nat) (n : Int) (w : World) (ht : Sts w pt t) (hct : pt = none → ct = 0) (_hlt : t.length ≤ 8796093021952) (hlc : t.length ≤ ct)
    (hp : Ptc w p hs) (_hc : p = none → cap = 0) (hl : hs.length ≤ 2513169434845) (_hlc : hs.length ≤ cap) (_hf : ∀ k ∈ hs, fits63 k.at') (_wr : (Lit.int .i64 n).wf = true) :
    Calls Tryd.prog 7 #[.slice pt t.length ct, .agg #[.slice p hs.length cap], .int .i64 n] w (TPost w) := by
  have b0 := up_alloc (Below.refl w.heap.size w) (.cells #[.slice p hs.length cap] 25 (0, 0))
  have P0 := Lib.hid (hp.mono b0)
  have T0 := Lib.hid (ht.mono b0)
  have O0 := Lib.hid (One.new w (.slice p hs.length cap) 25 w.heap.size rfl)
  have B0 := Lib.hid b0
  have HC := Lib.hid hct
  have HL := Lib.hid hlc
  clear hp ht b0 hct hlc _hf _hlc _hc _hlt _wr
  have oc := O0.out.c
  go_enter Tryd.func7, Tryd.ntmps7
  by_cases h1 : n < 0
  · have g1 : decide (n < 0) = true := decide_eq_true h1
    clear h1
    go_wp2_with fail
    refine (shown_any _).mono ?_
    rintro e w5 ⟨rfl, hb5⟩
    have B5 := Lib.hid (up_call B0.out hb5)
    clear hb5 B0
    go_wp2_with fail
    go_ret
    exact ⟨rfl, B5.out⟩
  have g1 : decide (n < 0) = false := decide_eq_false h1
  by_cases h2 : 20 < n
  · have g2 : decide (20 < n) = true := decide_eq_true h2
    clear h1 h2
    go_wp2_with fail
    refine (shown_any _).mono ?_
    rintro e w5 ⟨rfl, hb5⟩
    have B5 := Lib.hid (up_call B0.out hb5)
    clear hb5 B0
    go_wp2_with fail
    go_ret
    exact ⟨rfl, B5.out⟩
  have g2 : decide (20 < n) = false := decide_eq_false h2
  obtain ⟨N, rfl⟩ : ∃ N : Nat, n = N := ⟨n.toNat, by omega⟩
  have hN : N ≤ 20 := by omega
  clear h1 h2
  by_cases h3 : hs.length = 1
  · obtain ⟨h, rfl⟩ := List.length_eq_one_iff.1 h3
    clear h3
    obtain ⟨b, off, rfl, hbb, hcs⟩ := P0.out.at' (by simp)
    obtain ⟨⟨o1, o2, o3⟩, ⟨n1, n2, n3⟩, c0, c1, c2, r1, r2⟩ := hcs 0 (by simp)
    simp only [List.getElem_cons_zero, Nat.zero_mul, Nat.add_zero] at c0 c1 c2 r1 r2
    obtain ⟨z, ol, nl⟩ := h
    have e1 := r1.len
    dsimp only at e1 c0 r1
    subst e1
    simp only [sv] at c1
    have RO := Lib.hid r1.sts
    have oc1 : (w.alloc (.cells #[.slice (some ⟨b, off, none⟩) 1 cap] 25 (0, 0))).cell? ⟨w.heap.size, 0, none⟩ = some (.slice (some ⟨b, off, none⟩) 1 cap) := oc
    clear hcs c2 r1 r2 oc
    have L1 : ([(⟨z, ol, nl⟩ : Tp.H)] : List Tp.H).length = 1 := rfl
    rw [L1]
    rw [L1] at B0 P0 T0 O0 c0 c1 hbb RO
    by_cases h4 : ol.length = 0
    · have g4 : ((ol.length : Int) == 0) = true := by rw [beq_iff_eq]; omega
      clear h4
      go_wp2_with fail
      refine (shown_any _).mono ?_
      rintro e w5 ⟨rfl, hb5⟩
      have B5 := Lib.hid (up_call B0.out hb5)
      clear hb5 B0
      go_wp2_with fail
      go_ret
      exact ⟨rfl, B5.out⟩
    have g4 : ((ol.length : Int) == 0) = false := by rw [beq_eq_false_iff_ne]; omega
    have H4 := Lib.hid (show 0 < ol.length by omega)
    clear h4
    obtain ⟨W0, hW0⟩ : ∃ W0, W0 = w.alloc (.cells #[.slice (some ⟨b, off, none⟩) 1 cap] 25 (0, 0)) := ⟨_, rfl⟩
    have KC : Hid (∀ W, Below W0.heap.size W0 W → W.cell? ⟨b, off, none⟩ = some (.int .i64 z) ∧ W.cell? ⟨b, off + 1, none⟩ = some (.slice o1 ol.length o3) ∧ W.cell? ⟨w.heap.size, 0, none⟩ = some (.slice (some ⟨b, off, none⟩) 1 cap) ∧ Sts W o1 ol ∧ Sts W pt t) := Lib.hid (by
      rw [← hW0] at c0 c1 oc1 hbb RO T0
      intro W hW
      exact ⟨(hW.cell (p := ⟨b, off, none⟩) hbb).trans c0, (hW.cell (p := ⟨b, off + 1, none⟩) hbb).trans c1, (hW.cell (p := ⟨w.heap.size, 0, none⟩) (cell_block_lt oc1)).trans oc1, RO.out.mono hW, T0.out.mono hW⟩)
    have PK : Hid (∀ W, Below W0.heap.size W0 W → Ptc W (some ⟨b, off, none⟩) [⟨z, ol, nl⟩]) := Lib.hid (fun W hW => by rw [← hW0] at P0; exact P0.out.mono hW)
    go_wp2_with fail
    refine (tpApply_any (some ⟨b, off, none⟩) pt [⟨z, ol, nl⟩] t 1 cap _ ct _ rfl rfl P0.out hl T0.out HC.out HL.out).mono ?_
    rintro e w1 ⟨vs, rfl, own1, hb1⟩
    have a1 := up_alloc (Below.refl w1.heap.size w1) (.cells #[.int .i64 (Tp.aC [⟨z, ol, nl⟩] t), .int .i64 (Tp.aI [⟨z, ol, nl⟩] t)] 27 (0, 0))
    obtain ⟨ps, cs, rfl, hcs0, hcs1⟩ := ownS_shape own1
    have B1 := Lib.hid (up_call (up_call B0.out hb1) a1)
    have D1 : Hid (Below W0.heap.size W0 (w1.alloc (.cells #[.int .i64 (Tp.aC [⟨z, ol, nl⟩] t), .int .i64 (Tp.aI [⟨z, ol, nl⟩] t)] 27 (0, 0)))) := Lib.hid (by rw [hW0]; exact up_call hb1 a1)
    have F1 := Lib.hid (Flt.new w1 (Tp.aC [⟨z, ol, nl⟩] t) (Tp.aI [⟨z, ol, nl⟩] t) 27)
    have S1 := Lib.hid (ownS_up own1 a1)
    have W0B : Hid (w.heap.size ≤ W0.heap.size) := Lib.hid (by rw [hW0]; simp)
    have f0 := F1.out.c0
    clear own1 hb1 a1 P0 T0 O0 hW0 B0 c0 c1 oc1 hbb
    by_cases ha : Tp.aC [⟨z, ol, nl⟩] t = 0
    · rw [ha] at f0
      have k0 : ((0 : Int) != 0) = false := by decide
      have ok := Tp.aC_zero.1 ha
      have lt := (Lin.vC_zero ok.vt).1
      have HK := ok.vp.ch.1
      have kz0 := HK.lo
      have kz1 := HK.hi
      have ko := (Lin.vC_zero HK.old).1
      dsimp only at kz0 kz1 ko
      have la : (Tp.aT [⟨z, ol, nl⟩] t).length ≤ 120 := by unfold Tp.aT; rw [if_pos ha]; exact ok.len
      have HA := Lib.hid ha
      have S1S : Hid (∀ x ∈ Tp.aT [⟨z, ol, nl⟩] t, x.size ≤ 140737488351232) := Lib.hid (by
        have := Tp.ap_small ok.vp ok.vt 0 0
        rw [List.drop_zero] at this
        unfold Tp.aT; rw [if_pos ha]; exact this)
      have w5 : IntKind.i64.wrap ((t.length : Int) + (N : Int)) = (t.length : Int) + (N : Int) := IntWalk.i64_in _ (by omega)
      have w6 : IntKind.i64.wrap (((Tp.aT [⟨z, ol, nl⟩] t).length : Int) + (N : Int)) = ((Tp.aT [⟨z, ol, nl⟩] t).length : Int) + (N : Int) := IntWalk.i64_in _ (by omega)
      rw [ha] at B1 D1 S1 ⊢
      clear HK ok ha F1
      by_cases h5 : (120 : Int) < (t.length : Int) + (N : Int)
      · have g5 : decide ((120 : Int) < (t.length : Int) + (N : Int)) = true := decide_eq_true h5
        clear h5
        go_wp2_with fail
        refine (shown_any _).mono ?_
        rintro e w5 ⟨rfl, hb5⟩
        have B5 := Lib.hid (up_call B1.out hb5)
        clear hb5 B1
        go_wp2_with fail
        go_ret
        exact ⟨rfl, B5.out⟩
      have g5 : decide ((120 : Int) < (t.length : Int) + (N : Int)) = false := decide_eq_false h5
      by_cases h6 : (120 : Int) < ((Tp.aT [⟨z, ol, nl⟩] t).length : Int) + (N : Int)
      · have g6 : decide ((120 : Int) < ((Tp.aT [⟨z, ol, nl⟩] t).length : Int) + (N : Int)) = true := decide_eq_true h6
        clear h5 h6
        go_wp2_with fail
        refine (shown_any _).mono ?_
        rintro e w5 ⟨rfl, hb5⟩
        have B5 := Lib.hid (up_call B1.out hb5)
        clear hb5 B1
        go_wp2_with fail
        go_ret
        exact ⟨rfl, B5.out⟩
      have g6 : decide ((120 : Int) < ((Tp.aT [⟨z, ol, nl⟩] t).length : Int) + (N : Int)) = false := decide_eq_false h6
      have H56 : Hid (t.length + N ≤ 120 ∧ (Tp.aT [⟨z, ol, nl⟩] t).length + N ≤ 120) := Lib.hid ⟨by omega, by omega⟩
      clear h5 h6
      obtain ⟨S, hS⟩ : ∃ S, S = Tp.aT [⟨z, ol, nl⟩] t := ⟨_, rfl⟩
      rw [← hS] at S1 S1S la w6 g6 H56 hcs1 ⊢
      have HS := Lib.hid hS
      clear hS
      obtain ⟨x0, x1, x2, -, -⟩ := KC.out _ D1.out
      go_wp2_with fail
      obtain ⟨X1, hX1⟩ : ∃ X1, X1 = w1.alloc (.cells #[.int .i64 0, .int .i64 (Tp.aI [⟨z, ol, nl⟩] t)] 27 (0, 0)) := ⟨_, rfl⟩
      rw [← hX1] at B1 D1 S1 f0 x0 x1 x2 ⊢
      clear hX1 x0 x1 x2 f0
      obtain ⟨zn, rfl⟩ : ∃ zn : Nat, z = zn := ⟨z.toNat, by omega⟩
      go_loopw [10] (fun i wr => ∃ k : Nat, k ≤ t.length ∧ i = .int .i64 k ∧ Hid (Below X1.heap.size X1 wr) ∧ Hid (∀ j, j < k → j ≠ zn → j + ol.length ≤ t.length → mid t j (j + ol.length) ≠ ol)) (fun i _ => t.length - (intOf i).toNat)
      case atStart => exact ⟨0, Nat.zero_le _, rfl, Lib.hid (Below.refl _ _), Lib.hid (fun j hj => by omega)⟩
      case round =>
        obtain ⟨k, hk, rfl, hB, hM⟩ := hrel
        have b0 : (0 : Int) ≤ (k : Int) := by omega
        have D2 := Lib.hid (up_call D1.out hB.out)
        have B2 := Lib.hid (up_call B1.out hB.out)
        by_cases hlt : k < t.length
        · have g7 : decide (k < t.length) = true := by simpa using hlt
          have b1 : (k : Int) < (t.length : Int) := by omega
          have w7 : IntKind.i64.wrap ((k : Int) + (ol.length : Int)) = (k : Int) + (ol.length : Int) := IntWalk.i64_in _ (by omega)
          obtain ⟨x0, x1, x2, x3, x4⟩ := KC.out _ D2.out
          have X3 := Lib.hid x3
          have X4 := Lib.hid x4
          clear x3 x4
          by_cases hz : k = zn
          · have g8 : ((k : Int) != (zn : Int)) = false := by simp [hz]
            have NX : Hid (∀ j, j < k + 1 → j ≠ zn → j + ol.length ≤ t.length → mid t j (j + ol.length) ≠ ol) := Lib.hid (fun j hj hne => hM.out j (by omega) hne)
            clear hz
            go_wp2_with fail
            go_roundw
            case rel => exact ⟨k + 1, hlt, by go_num, hB, NX⟩
            case measure => first | (simp [intOf]; first | done | fail "open") | (simp [intOf]; omega)
          · have g8 : ((k : Int) != (zn : Int)) = true := by rw [bne_iff_ne]; omega
            by_cases hle : k + ol.length ≤ t.length
            · have g9 : decide ((k : Int) + (ol.length : Int) ≤ (t.length : Int)) = true := decide_eq_true (by omega)
              have s1 := fun w => run_mid pt t.length ct k (k + ol.length) (by omega) (by have := HL.out; omega) w
              rw [show ((k + ol.length : Nat) : Int) = (k : Int) + (ol.length : Int) by omega, Nat.add_sub_cancel_left] at s1
              have ms := mid_size t k (k + ol.length) hle
              rw [Nat.add_sub_cancel_left] at ms
              have MS := Lib.hid ms
              have MD := Lib.hid (X4.out.mid k (k + ol.length) ct (by omega) hle HL.out)
              have MN := Lib.hid (fun (hn : mid t k (k + ol.length) ≠ ol) => (fun j hj hne hl => by
                by_cases e : j = k
                · rw [e]; exact hn
                · exact hM.out j (by omega) hne hl : ∀ j, j < k + 1 → j ≠ zn → j + ol.length ≤ t.length → mid t j (j + ol.length) ≠ ol))
              clear ms hz
              go_wp2_with fail
              refine (equal_any (sAt pt k ct) o1 (mid t k (k + ol.length)) ol _ _ (ct - k) o3 _ (by rw [MS.out]) rfl MD.out X3.out).mono ?_
              rintro e w4 ⟨rfl, nq, hw4⟩
              have BB : Hid (Below X1.heap.size X1 w4) := Lib.hid (by rw [hw4]; exact below_drewN hB.out _)
              clear hw4 x0 x1 x2
              by_cases he : mid t k (k + ol.length) = ol
              · rw [eqS_true he]
                have B3 := Lib.hid (up_call B1.out BB.out)
                clear he
                go_wp2_with fail
                refine (shown_any _).mono ?_
                rintro e w5 ⟨rfl, hb5⟩
                have B5 := Lib.hid (up_call B3.out hb5)
                clear hb5 B3
                go_wp2_with fail
                go_ret
                exact ⟨rfl, B5.out⟩
              · rw [eqS_false he]
                have NX := Lib.hid (MN.out he)
                clear he
                go_wp2_with fail
                go_roundw
                case rel => exact ⟨k + 1, hlt, by go_num, BB, NX⟩
                case measure => first | (simp [intOf]; first | done | fail "open") | (simp [intOf]; omega)
            · have g9 : decide ((k : Int) + (ol.length : Int) ≤ (t.length : Int)) = false := decide_eq_false (by omega)
              have NX : Hid (∀ j, j < k + 1 → j ≠ zn → j + ol.length ≤ t.length → mid t j (j + ol.length) ≠ ol) := Lib.hid (fun j hj hne hl => by
                by_cases e : j = k
                · exact (hle (by omega)).elim
                · exact hM.out j (by omega) hne hl)
              clear hz
              go_wp2_with fail
              go_roundw
              case rel => exact ⟨k + 1, hlt, by go_num, hB, NX⟩
              case measure => first | (simp [intOf]; first | done | fail "open") | (simp [intOf]; omega)
        · have g7 : decide (k < t.length) = false := by simpa using hlt
          have ONE : Hid (∀ j, j ≠ zn → j + ol.length ≤ t.length → mid t j (j + ol.length) ≠ ol) := Lib.hid (fun j hne hl => hM.out j (by have := H4.out; omega) hne hl)
          clear hM
          go_wp2_with fail
          clear hk hlt g7 b0
          obtain ⟨Y0, rfl⟩ : ∃ Y0, Y0 = wr := ⟨_, rfl⟩
          have sN : ByteArray.size ⟨#[]⟩ ≤ 140737488351232 := by decide
          go_loopw [11, 12] (fun v i wq => ∃ (k : Nat) (vq : Value), k ≤ N ∧ i = .int .i64 k ∧ vq = v ∧ Hid (OwnS Y0.heap.size wq vq (List.replicate k ⟨#[]⟩)) ∧ Hid (Below Y0.heap.size Y0 wq)) (fun _ i _ => N - (intOf i).toNat)
          case atStart => exact ⟨0, _, Nat.zero_le _, rfl, rfl, Lib.hid (World.ownsRow_nil _ _ _ _), Lib.hid (Below.refl _ _)⟩
          case round =>
            obtain ⟨k2, v, hk2, rfl, rfl, hO, hE⟩ := hrel
            have b0 : (0 : Int) ≤ (k2 : Int) := by omega
            by_cases hl2 : k2 < N
            · have g7 : decide ((k2 : Int) < (N : Int)) = true := decide_eq_true (by omega)
              have hA := Lib.hid (up_alloc (Below.refl wr.heap.size wr) (.cells #[.string ⟨#[]⟩] 9 (0, 0)))
              have hz2 := hE.out.size
              go_wp2_with (at_builtin; refine Halt.out ?_)
              refine ⟨?_⟩
              refine wp_appS rfl (.tmp 107) (.tmp 108) rfl Y0.heap.size v (List.replicate k2 ⟨#[]⟩) [⟨#[]⟩] (some ⟨wr.heap.size, 0, none⟩) 1 rfl (ownS_up hO.out hA.out) rfl (sts_one wr wr.heap.size ⟨#[]⟩ rfl sN) (fun h => by cases h) (by simp; omega) (by rw [World.size_alloc]; omega) ?_
              intro v2 w6 own2 bel2
              rw [← List.replicate_succ'] at own2
              obtain ⟨p2, cp2, rfl, -, -⟩ := ownS_shape own2
              rw [List.length_replicate] at own2 ⊢
              have O2 := Lib.hid own2
              have E2 := Lib.hid ((hE.out.trans (hA.out.mono hz2)).trans bel2)
              clear own2 bel2
              go_wp2_with fail
              go_roundw
              case rel => exact ⟨k2 + 1, _, hl2, by go_num, rfl, O2, E2⟩
              case measure => first | (simp [intOf]; first | done | fail "open") | (simp [intOf]; omega)
            · have g7 : decide ((k2 : Int) < (N : Int)) = false := decide_eq_false (by omega)
              obtain rfl : k2 = N := by omega
              clear hl2 hk2 b0
              go_wp2_with fail
              obtain ⟨Z0, rfl⟩ : ∃ Z0, Z0 = wr := ⟨_, rfl⟩
              have D3 := Lib.hid (up_call D2.out hE.out)
              have B3 := Lib.hid (up_call B2.out hE.out)
              go_loopw [13] (fun i wq => ∃ k : Nat, k ≤ ol.length ∧ i = .int .i64 k ∧ Z0 = wq ∧ Hid (∀ j (_ : j < k) (h : j < ol.length), ol[j] ≠ ⟨#[]⟩)) (fun i _ => ol.length - (intOf i).toNat)
              case atStart => exact ⟨0, Nat.zero_le _, rfl, rfl, Lib.hid (fun j hj => by omega)⟩
              case round =>
                obtain ⟨k3, hk3, rfl, rfl, hQ⟩ := hrel
                have b0 : (0 : Int) ≤ (k3 : Int) := by omega
                by_cases hl3 : k3 < ol.length
                · have g8 : decide (k3 < ol.length) = true := by simpa using hl3
                  have b1 : (k3 : Int) < (ol.length : Int) := by omega
                  obtain ⟨x0, x1, x2, x3, x4⟩ := KC.out _ D3.out
                  obtain ⟨b', off', rfl, hb', hc⟩ := x3.cell hl3
                  have NX := Lib.hid (fun (e : ol[k3] ≠ ⟨#[]⟩) => (fun j hj h => by
                    by_cases e' : j = k3
                    · subst e'; exact e
                    · exact hQ.out j (by omega) h : ∀ j (_ : j < k3 + 1) (h : j < ol.length), ol[j] ≠ ⟨#[]⟩))
                  obtain ⟨x, hx⟩ : ∃ x, x = ol[k3] := ⟨_, rfl⟩
                  rw [← hx] at hc NX
                  clear hx x0 x1 x2 x3 x4
                  by_cases he : x = ⟨#[]⟩
                  · subst he
                    go_wp2_with fail
                    refine (shown_any _).mono ?_
                    rintro e w5 ⟨rfl, hb5⟩
                    have B5 := Lib.hid (up_call B3.out hb5)
                    clear hb5 B3
                    go_wp2_with fail
                    go_ret
                    exact ⟨rfl, B5.out⟩
                  · have e0 : (⟨#[]⟩ : ByteArray).toList = [] := by first | rfl | decide | (unfold ByteArray.toList ByteArray.toList.loop; rfl)
                    have e1 : (x.toList == ([] : List UInt8)) = false := by have := tl_false (y := ⟨#[]⟩) he; rwa [e0] at this
                    have e2 : x.toList.isEmpty = false := by rw [← e1]; cases x.toList <;> rfl
                    have NX2 := Lib.hid (NX.out he)
                    clear he NX
                    go_wp2_with fail
                    go_roundw
                    case rel => exact ⟨k3 + 1, hl3, by go_num, trivial, NX2⟩
                    case measure => first | (simp [intOf]; first | done | fail "open") | (simp [intOf]; omega)
                · have g8 : decide (k3 < ol.length) = false := by simpa using hl3
                  have NE : Hid (∀ x ∈ ol, x ≠ ByteArray.empty) := Lib.hid (fun x hx => by
                    obtain ⟨j, hj, rfl⟩ := List.getElem_of_mem hx
                    exact hQ.out j (by omega) hj)
                  clear hQ
                  clear hl3 hk3 b0
                  obtain ⟨pv, cv, rfl, hpv, -⟩ := ownS_shape hO.out
                  have lrep : (List.replicate k2 (⟨#[]⟩ : ByteArray)).length = k2 := List.length_replicate
                  obtain ⟨F, hF⟩ : ∃ F, F = List.replicate k2 (⟨#[]⟩ : ByteArray) := ⟨_, rfl⟩
                  rw [lrep] at hO ⊢
                  rw [← hF] at hO lrep
                  have SMF : ∀ x ∈ F, x.size ≤ 140737488351232 := fun x hx => by rw [hF] at hx; rw [List.eq_of_mem_replicate hx]; exact sN
                  obtain ⟨zs1, zs2, zs3⟩ := Tp.z_shift (h := ⟨(zn : Int), ol, nl⟩) (t := t) (n := k2) HA.out hN H4.out (by have := H56.out.1; exact this) (by have := H56.out.2; rw [HS.out] at this; exact this) (fun i hi hl2 => ONE.out i (by dsimp only at hi; omega) hl2) NE.out
                  have eE : List.replicate k2 ByteArray.empty = F := hF.symm
                  rw [eE] at zs1 zs2 zs3
                  rw [← HS.out] at zs2
                  have FZ : Hid (∀ W (p7 : Option Addr) (c7 : Nat), Below W0.heap.size W0 W → Sts W p7 (F ++ t) → (p7 = none → c7 = 0) → (F ++ t).length ≤ c7 → Calls Tryd.prog 10 #[.slice p7 (F.length + t.length) c7, .agg #[.slice (some ⟨b, off, none⟩) 1 cap], .int .i64 20] W
                      (fun e w' => ∃ (q : Option Addr) (cq : Nat) (r : Option Addr) (cr : Nat), e = .returned (.tuple #[.slice q (F.length + S.length) cq, .slice r 1 cr, .agg #[.int .i64 0, .int .i64 (Tp.zI (F ++ t) [⟨(zn : Int), ol, nl⟩] 20)]]) ∧ OwnS W.heap.size w' (.slice q (F.length + S.length) cq) (F ++ S) ∧ OwnE intE W.heap.size w' (.slice r 1 cr) [(k2 : Int)] ∧ Below W.heap.size W w')) := Lib.hid (fun W p7 c7 hW h1 h2 h3 => by
                    have := fuzzy_any (some ⟨b, off, none⟩) p7 [⟨(zn : Int), ol, nl⟩] (F ++ t) cap c7 20 W (PK.out W hW) hl h1 h2 h3
                    rw [List.length_append] at this
                    refine this.mono ?_
                    rintro e w' ⟨vt, vo, rfl, a1, a2, a3⟩
                    rw [zs2] at a1
                    rw [zs3] at a2
                    rw [zs1]
                    obtain ⟨q, cq, rfl, -, -⟩ := ownS_shape a1
                    obtain ⟨r, cr, rfl, -, -, -, -⟩ := row_of_own a2
                    rw [List.length_append] at a1 ⊢
                    exact ⟨q, cq, r, cr, rfl, a1, a2, a3⟩)
                  have FS := Lib.hid (ownS_sts hO.out SMF (by omega))
                  have HPV := Lib.hid hpv
                  obtain ⟨x0, x1, x2, x3, x4⟩ := KC.out _ D3.out
                  have XT := Lib.hid x4
                  have YZ := Lib.hid hE.out.size
                  have LF : Hid (F.length ≤ 20) := Lib.hid (by omega)
                  have LREP := Lib.hid lrep
                  have hx2 := cell_block_lt x2
                  clear zs1 zs2 zs3 eE hF x0 x1 x3 x4 hpv lrep
                  have SMFT : ∀ x ∈ F ++ t, x.size ≤ 140737488351232 := fun x hx => by
                    rcases List.mem_append.1 hx with hx | hx
                    · exact SMF x hx
                    · exact XT.out.small x hx
                  have SMH := Lib.hid SMFT
                  have SMS := Lib.hid (fun x (hx : x ∈ S) => S1S.out x hx)
                  go_wp2_with fail
                  rename_i K hK
                  have PB : Hid (∀ b, (Value.slice pv k2 cv).ownBlock = some b → b < Z0.heap.size) := Lib.hid (fun b hb => (own_blk hO.out b hb).2)
                  have S120 := Lib.hid la
                  have TL : ∀ (x0 x1 x3 x4 x5 x6 x8 x9 x10 x12 x13 x17 x18 x19 x20 x21 x22 x23 x24 x25 x26 x27 x28 x29 x30 x31 x32 x33 x34 x35 x36 x37 x38 x39 x40 x41 x42 x43 x44 x45 x46 x47 x48 x49 x50 x51 x52 x53 x54 x55 x56 x57 x58 x59 x60 x61 x62 x63 x64 x65 x66 x67 x68 x69 x70 x71 x72 x73 x74 x75 x76 x77 x78 x79 x80 x81 x82 x83 x84 x85 x86 x87 x88 x89 x90 x91 x92 x93 x94 x95 x96 x97 x98 x99 x100 x101 x102 x103 x104 x105 x106 x107 x108 x109 x110 x111 x112 x113 x114 x115 x116 x117 x118 x119 x120 x121 x122 x123 x124 x125 x126 x127 x128 x129 x130 x131 x132 x133 x134 x135 x136 x137 x138 x139 x140 x141 x142 x143 x144 x145 x146 x147 x148 x149 x150 x151 : Value) (g B : Nat) (q : Option Addr) (cq : Nat) (r : Option Addr) (cr : Nat) (V : World), Fin Z0 B g q cq r cr (F.length + S.length) (F ++ S) (k2 : Int) V → K { tmps := #[x0, x1, .int .i64 k2, x3, x4, x5, x6, .slice ps S.length cs, x8, x9, x10, .slice pv k2 cv, x12, x13, .slice q (F.length + S.length) cq, .slice r 1 cr, .pointer (some ⟨g, 0, none⟩), x17, x18, x19, x20, x21, x22, x23, x24, x25, x26, x27, x28, x29, x30, x31, x32, x33, x34, x35, x36, x37, x38, x39, x40, x41, x42, x43, x44, x45, x46, x47, x48, x49, x50, x51, x52, x53, x54, x55, x56, x57, x58, x59, x60, x61, x62, x63, x64, x65, x66, x67, x68, x69, x70, x71, x72, x73, x74, x75, x76, x77, x78, x79, x80, x81, x82, x83, x84, x85, x86, x87, x88, x89, x90, x91, x92, x93, x94, x95, x96, x97, x98, x99, x100, x101, x102, x103, x104, x105, x106, x107, x108, x109, x110, x111, x112, x113, x114, x115, x116, x117, x118, x119, x120, x121, x122, x123, x124, x125, x126, x127, x128, x129, x130, x131, x132, x133, x134, x135, x136, x137, x138, x139, x140, x141, x142, x143, x144, x145, x146, x147, x148, x149, x150, x151], defers := [] } V := by
                    intro x0 x1 x3 x4 x5 x6 x8 x9 x10 x12 x13 x17 x18 x19 x20 x21 x22 x23 x24 x25 x26 x27 x28 x29 x30 x31 x32 x33 x34 x35 x36 x37 x38 x39 x40 x41 x42 x43 x44 x45 x46 x47 x48 x49 x50 x51 x52 x53 x54 x55 x56 x57 x58 x59 x60 x61 x62 x63 x64 x65 x66 x67 x68 x69 x70 x71 x72 x73 x74 x75 x76 x77 x78 x79 x80 x81 x82 x83 x84 x85 x86 x87 x88 x89 x90 x91 x92 x93 x94 x95 x96 x97 x98 x99 x100 x101 x102 x103 x104 x105 x106 x107 x108 x109 x110 x111 x112 x113 x114 x115 x116 x117 x118 x119 x120 x121 x122 x123 x124 x125 x126 x127 x128 x129 x130 x131 x132 x133 x134 x135 x136 x137 x138 x139 x140 x141 x142 x143 x144 x145 x146 x147 x148 x149 x150 x151 g B q cq r cr V ⟨E1, E2, E3, E4, E5⟩
                    refine hK _ _ ?_
                    have SV := Lib.hid ((ownS_sts S1.out SMS.out (by omega)).mono (up_call (up_call hB.out hE.out) E1))
                    have OF := Lib.hid (ownS_up hO.out E1)
                    have HCS := Lib.hid hcs0
                    have Q1 := Lib.hid E1
                    have Q2 := Lib.hid E2
                    have Q3 := Lib.hid E3
                    have Q4 := Lib.hid E4
                    clear E1 E2 E3 E4 k0 lt la ko w5 w6 g6 g5 kz0 kz1 hK
                    go_wp2_with (at_builtin; refine Halt.out ?_)
                    refine ⟨?_⟩
                    refine wp_unguard (by first | rfl | (simp [Region.wanted, yielded]; done)) ?_
                    have lf := LF.out
                    have ls := S120.out
                    have SM2 : ∀ x ∈ F ++ S, x.size ≤ 140737488351232 := fun x hx => by
                      rcases List.mem_append.1 hx with hx | hx
                      · exact SMH.out x (List.mem_append_left _ hx)
                      · exact SMS.out x hx
                    have l2 : (F ++ S).length ≤ 281474976710656 := by rw [List.length_append]; omega
                    refine wp_appG rfl (.tmp 138) (.tmp 139) rfl Y0.heap.size (.slice pv k2 cv) F S ps cs rfl OF.out rfl SV.out HCS.out (by omega) (by have := Q1.out.size; have := YZ.out; omega) ?_
                    intro v9 w9 own9 gr9
                    have y0 := YZ.out
                    have y1 := Q1.out.size
                    have y2 := B2.out.size
                    have y3 := Q2.out
                    have A1 := Lib.hid (ownS_sts (ownS_gr Q3.out gr9 (fun b hb => by have := PB.out b hb; omega)) SM2 l2)
                    obtain ⟨r', cr', er, hrow, -, -, -⟩ := row_of_own (ownE_gr Q4.out gr9 (fun b hb => by have := PB.out b hb; omega))
                    simp only [Value.slice.injEq] at er
                    obtain ⟨rfl, -, rfl⟩ := er
                    have A2 := Lib.hid hrow
                    have B9 := Lib.hid (Below.grown (B := w.heap.size) (a := w) (up_call B3.out Q1.out) gr9 (by omega) (fun b hb => by have := (own_blk hO.out b hb).1; omega))
                    obtain ⟨p9, c9, rfl, -, -⟩ := ownS_shape own9
                    have A3 := Lib.hid (ownS_sts own9 SM2 l2)
                    have e9 : (F ++ S).length = F.length + S.length := List.length_append
                    rw [e9]
                    have E9 := Lib.hid e9
                    clear y0 y1 y2 y3 hrow own9 gr9 SM2 l2 lf ls e9 E5
                    go_wp2_with fail
                    refine (equal_any q p9 (F ++ S) (F ++ S) _ _ cq c9 _ E9.out.symm E9.out.symm A1.out A3.out).mono ?_
                    rintro e w10 ⟨rfl, nq, hw10⟩
                    rw [eqS_true rfl]
                    have B10 : Hid (Below w.heap.size w w10) := Lib.hid (by rw [hw10]; exact below_drewN B9.out _)
                    have R10 : Hid (Row intE w10 r [(k2 : Int)]) := Lib.hid (by rw [hw10]; exact A2.out.drewN _)
                    clear hw10 A1 A2 A3 B9
                    go_wp2_with fail
                    refine (ints_same r (some ⟨w10.heap.size, 0, none⟩) [(k2 : Int)] 1 1 cr 1 _ rfl rfl (R10.out.mono (up_alloc (Below.refl _ _) _)) (row_int1 _ _ _ _ rfl) (by simp)).mono ?_
                    rintro e w11 ⟨rfl, nr, hw11⟩
                    have B11 : Hid (Below w.heap.size w w11) := Lib.hid (by rw [hw11]; exact below_drewN (up_alloc B10.out _) _)
                    clear hw11 B10 R10
                    go_wp2_with fail
                    refine (shown_any _).mono ?_
                    rintro e w12 ⟨rfl, hb12⟩
                    have B12 := Lib.hid (up_call B11.out hb12)
                    clear hb12 B11
                    go_wp2_with fail
                    go_ret
                    exact ⟨rfl, B12.out⟩
                  have TLH := Lib.hid TL
                  clear TL hK
                  go_region_law (first
                    | (skip; refine step_appSs (by rfl) (.tmp 123) (.tmp 124) (by rfl) Z0.heap.size (.slice (some ⟨_, 0, none⟩) 0 0) [] F pv cv (by rfl) (by (repeat' (first | (with_reducible refine ownS_dr ?_) | exact ownS_empty _ _ _ (by first | rfl | simp) (by simp) | (with_reducible refine ownS_al ?_ _))); first | done | fail "open") (by rw [LREP.out]; rfl) (FS.out.mono (by (repeat' (first | (with_reducible exact Below.refl _ _) | (with_reducible assumption) | (with_reducible refine below_drewN ?_ _) | (with_reducible refine Below.setCell ?_ ?_ _) | (with_reducible refine Below.alloc ?_ ?_ _) | (with_reducible refine Below.drew ?_) | go_size)))) HPV.out (by have := LF.out; simp; omega) (by simp <;> omega) ?_; intro v5 w5 own5 gr5
                       have O5 := Lib.hid own5
                       have BL5 := Lib.hid (Below.grown (B := Z0.heap.size) (a := Z0) (by (repeat' (first | (with_reducible exact Below.refl _ _) | (with_reducible assumption) | (with_reducible refine below_drewN ?_ _) | (with_reducible refine Below.setCell ?_ ?_ _) | (with_reducible refine Below.alloc ?_ ?_ _) | (with_reducible refine Below.drew ?_) | go_size))) gr5 (by simp <;> omega) (fun b hb => by simp [Value.ownBlock] at hb; omega))
                       have x25 := (BL5.out.cell (p := ⟨w.heap.size, 0, none⟩) hx2).trans x2
                       have x25a := cellU x25 (.cells #[.int .i64 0, .int .i64 0] 27 (0, 0))
                       first | (have k5 := Lib.hid (KB.grown (base := Z0.heap.size) (l := []) (g := Z0.heap.size) (by (repeat' (first | (with_reducible refine KB.dr ?_) | exact KB.new _ _ (by simp; first | done | fail "open") | (with_reducible refine KB.al ?_ _))); first | done | fail "open") (by (repeat' (first | (with_reducible refine ownS_dr ?_) | exact ownS_empty _ _ _ (by first | rfl | simp) (by simp) | (with_reducible refine ownS_al ?_ _))); first | done | fail "open") gr5)) | (have k5 := Lib.hid (KB.grown (base := Z0.heap.size) (l := []) (g := Z0.heap.size + 1) (by (repeat' (first | (with_reducible refine KB.dr ?_) | exact KB.new _ _ (by simp; first | done | fail "open") | (with_reducible refine KB.al ?_ _))); first | done | fail "open") (by (repeat' (first | (with_reducible refine ownS_dr ?_) | exact ownS_empty _ _ _ (by first | rfl | simp) (by simp) | (with_reducible refine ownS_al ?_ _))); first | done | fail "open") gr5)) | skip
                       clear own5 gr5)
                    | (skip; refine step_appSs (by rfl) (.tmp 125) (.tmp 126) (by rfl) Z0.heap.size v5 ([] ++ F) t pt ct (by rfl) (by (repeat' (first | (with_reducible exact O5.out) | (with_reducible refine ownS_dr ?_) | exact ownS_empty _ _ _ (by first | rfl | simp) (by simp) | (with_reducible refine ownS_al ?_ _))); first | done | fail "open") (by rfl) (XT.out.mono (by first | exact BL5.out | exact up_alloc BL5.out _)) HC.out (by have := LF.out; simp; omega) (by have := BL5.out.size; simp; omega) ?_; intro v7 w7 own7 gr7
                       have BL7 := Lib.hid (Below.grown (B := Z0.heap.size) (a := Z0) (by first | exact BL5.out | exact up_alloc BL5.out _) gr7 (by have := BL5.out.size; simp; omega) (fun b hb => (own_blk O5.out b hb).1))
                       first | (have k7 := Lib.hid (KB.grown (base := Z0.heap.size) (g := Z0.heap.size) (l := [] ++ F) (by (repeat' (first | (with_reducible exact k5.out) | (with_reducible refine KB.dr ?_) | exact KB.new _ _ (by simp; first | done | fail "open") | (with_reducible refine KB.al ?_ _))); first | done | fail "open") (by (repeat' (first | (with_reducible exact O5.out) | (with_reducible refine ownS_dr ?_) | exact ownS_empty _ _ _ (by first | rfl | simp) (by simp) | (with_reducible refine ownS_al ?_ _))); first | done | fail "open") gr7)) | (have k7 := Lib.hid (KB.grown (base := Z0.heap.size) (g := Z0.heap.size + 1) (l := [] ++ F) (by (repeat' (first | (with_reducible exact k5.out) | (with_reducible refine KB.dr ?_) | exact KB.new _ _ (by simp; first | done | fail "open") | (with_reducible refine KB.al ?_ _))); first | done | fail "open") (by (repeat' (first | (with_reducible exact O5.out) | (with_reducible refine ownS_dr ?_) | exact ownS_empty _ _ _ (by first | rfl | simp) (by simp) | (with_reducible refine ownS_al ?_ _))); first | done | fail "open") gr7)) | (have k7 := Lib.hid (KB.grown (base := Z0.heap.size) (g := w5.heap.size) (l := [] ++ F) (by (repeat' (first | (with_reducible refine KB.dr ?_) | exact KB.new _ _ (by simp; first | done | fail "open") | (with_reducible refine KB.al ?_ _))); first | done | fail "open") (by (repeat' (first | (with_reducible exact O5.out) | (with_reducible refine ownS_dr ?_) | exact ownS_empty _ _ _ (by first | rfl | simp) (by simp) | (with_reducible refine ownS_al ?_ _))); first | done | fail "open") gr7)) | skip
                       rw [List.nil_append] at own7
                       obtain ⟨p7, c7, rfl, h70, h71⟩ := ownS_shape own7
                       have S7 := Lib.hid (ownS_sts own7 SMH.out (by have := LF.out; rw [List.length_append]; omega))
                       have H7 := Lib.hid (And.intro h70 h71)
                       have x27 := (BL7.out.cell (p := ⟨w.heap.size, 0, none⟩) hx2).trans x2
                       have x27a := cellU x27 (.cells #[.int .i64 0, .int .i64 0] 27 (0, 0))
                       clear own7 gr7 h70 h71)
                    | (go_simp
                       go_at_call 10
                       refine (FZ.out _ p7 c7 (by first | exact up_call D3.out BL7.out | exact up_call D3.out (up_alloc BL7.out _)) (by first | exact S7.out | exact S7.out.mono (up_alloc (Below.refl _ _) _)) H7.out.1 H7.out.2).mono ?_
                       rintro e w8 ⟨q, cq, r, cr, rfl, q1, q2, q3⟩
                       have O8 := Lib.hid q1
                       have I8 := Lib.hid q2
                       have BL8 : Hid (Below Z0.heap.size Z0 w8) := Lib.hid (by first | exact up_call BL7.out q3 | exact up_call (up_alloc BL7.out _) q3)
                       first | (have k8 := Lib.hid (And.intro (k7.out.up q3) k7.out.lt)) | (have k8 := Lib.hid (And.intro ((k7.out.al _).up q3) (k7.out.al _).lt)) | (have k8 := Lib.hid (And.intro ((KB.new w7 w7.heap.size rfl).up q3) (KB.new w7 w7.heap.size rfl).lt)) | skip
                       first | (obtain ⟨kc0, kc1, kf0, kf1, klt⟩ := k8.out.1.cells) | skip
                       clear q1 q2 q3))
                  all_goals first
                    | exact TLH.out _ _ _ _ _ _ _ _ _ _ _ _ _ _ _ _ _ _ _ _ _ _ _ _ _ _ _ _ _ _ _ _ _ _ _ _ _ _ _ _ _ _ _ _ _ _ _ _ _ _ _ _ _ _ _ _ _ _ _ _ _ _ _ _ _ _ _ _ _ _ _ _ _ _ _ _ _ _ _ _ _ _ _ _ _ _ _ _ _ _ _ _ _ _ _ _ _ _ _ _ _ _ _ _ _ _ _ _ _ _ _ _ _ _ _ _ _ _ _ _ _ _ _ _ _ _ _ _ _ _ _ _ _ _ _ _ _ _ _ _ _ _ _ _ _ _ _ _ _ _ _ _ _ (Fin.set BL8.out O8.out I8.out k8.out.1 k8.out.2 (by have := BL5.out.size; have := BL7.out.size; omega) _)
                    | exact TLH.out _ _ _ _ _ _ _ _ _ _ _ _ _ _ _ _ _ _ _ _ _ _ _ _ _ _ _ _ _ _ _ _ _ _ _ _ _ _ _ _ _ _ _ _ _ _ _ _ _ _ _ _ _ _ _ _ _ _ _ _ _ _ _ _ _ _ _ _ _ _ _ _ _ _ _ _ _ _ _ _ _ _ _ _ _ _ _ _ _ _ _ _ _ _ _ _ _ _ _ _ _ _ _ _ _ _ _ _ _ _ _ _ _ _ _ _ _ _ _ _ _ _ _ _ _ _ _ _ _ _ _ _ _ _ _ _ _ _ _ _ _ _ _ _ _ _ _ _ _ _ _ _ _ (Fin.new BL8.out O8.out I8.out (by have := BL7.out.size; first | omega | (simp; omega)) _ _)
    · have hne : (Tp.aC [⟨z, ol, nl⟩] t != 0) = true := by simpa using ha
      clear ha
      go_wp2_with fail
      refine (shown_any _).mono ?_
      rintro e w5 ⟨rfl, hb5⟩
      have B5 := Lib.hid (up_call B1.out hb5)
      clear hb5 B1
      go_wp2_with fail
      go_ret
      exact ⟨rfl, B5.out⟩
  · have g3 : ((hs.length : Int) != 1) = true := by rw [bne_iff_ne]; omega
    clear h3
    go_wp2_with fail
    refine (shown_any _).mono ?_
    rintro e w5 ⟨rfl, hb5⟩
    have B5 := Lib.hid (up_call B0.out hb5)
    clear hb5 B0
    go_wp2_with fail
    go_ret
    exact ⟨rfl, B5.out⟩
end Go.Proofs.YteamghlcaalapaaDoor
namespace Go.Proofs.YteamghlcaalapaaDoor.lawUnifiedShifted
open Go.ChangeShapes Go.WideShapes Go.ChangeAt Go.RowKit
open Go.ChangeMaps (open_string shut_string)
set_option linter.unusedVariables false

theorem own : ownKnob Tryd.prog.godebug = none := by kernel_rfl
theorem laidOut : laidOutB Tryd.prog = true := by kernel_rfl
theorem door_met (os : Os) (args : Array Value) : laidMetH Tryd.prog Rows.unifiedShiftedRow.laid ((World.doorLaid Tryd.prog 400 os).forCall (fun _ _ => 0) ⟨#[], args, []⟩).memory :=
  laidMetH_of_parts3 (fuel := 8) (laidMet_of_run' 8 (by kernel_rfl) (by kernel_rfl)) (by kernel_rfl) (by kernel_rfl)
set_option maxRecDepth 100000 in
theorem lifted (os : Os) (started : os.Started) (H : Type) (enc : TypeId × Value → H) :
    ReturnsInHanded {} Tryd.checked os 7 .any (fun w args => (Rows.unifiedShiftedSpec.pre enc Tryd.prog Tryd.f7 [] false w args ∧ laidMetH Tryd.prog Rows.unifiedShiftedRow.laid w) ∧ sizedMet enc Tryd.prog Tryd.f7 (OpenSpec.ofChange Rows.unifiedShiftedSpec) false w args) (Rows.unifiedShiftedSpec.post enc Tryd.prog Tryd.f7 false true false false) := by
  refine returnsInHanded_of_change_and (C := Tryd.checked) (X := fun w _ => laidMetH Tryd.prog Rows.unifiedShiftedRow.laid w) (fun _ _ _ hh h => h.of_heap hh) own started (by kernel_rfl) Tryd.func7
    (ChangeSpec.witness_shaped (enc := enc) (C := Tryd.checked) (os := os) (X := fun w _ => laidMetH Tryd.prog Rows.unifiedShiftedRow.laid w) false (World.doorLaid Tryd.prog 400 os) #[.slice none 0 0, .agg #[.slice none 0 0], .int .i64 0] 8 rfl (World.shaped_of_RefB (by kernel_rfl) (by kernel_rfl)) (by kernel_rfl) (by kernel_rfl) (by kernel_rfl) (door_met os _)) ?_
  intro W base args ds gs before hval0 hW hcnd hsz0 hL _
  have hval : ∀ (j : Nat) t v, Tryd.f7.params[j]? = some t → args[j]? = some v → Value.okWide Tryd.prog W .any base t v := hval0
  have hW' := hW
  obtain ⟨p, q, hA0, hV, rfl, hfz, hnd⟩ := hW
  have hA : DataW.TrodAll enc Tryd.prog W 0 (fun _ => true) true Tryd.f7.params.toList args.toList ds p := hA0
  have hsz : ∀ (j : Nat) t d, Tryd.f7.params[j]? = some t → ds[j]? = some d → (d.weights Tryd.prog t).all (· ≤ 140737488351232) = true := by
    intro j t d ht hd
    refine List.all_eq_true.2 fun x hx => List.all_eq_true.1 hsz0 x (DataW.weights_mem_each (j := j) ?_ ?_ x hx)
    · rw [List.getElem?_append_left (by have := (Array.getElem?_eq_some_iff.1 ht).1; simpa using this)]; simpa using ht
    · rw [List.getElem?_append_left (List.getElem?_eq_some_iff.1 hd).1]; exact hd
  rw [Tryd.params7] at hA hval hsz
  obtain ⟨v0, vs0, d0, ds0, p0, q0, hargs, rfl, rfl, h0, r0⟩ := trodAll_cons hA
  obtain ⟨v1, vs1, d1, ds1, p1, q1, rfl, rfl, rfl, h1, r1⟩ := trodAll_cons r0
  obtain ⟨v2, vs2, d2, ds2, p2, q2, rfl, rfl, rfl, h2, r2⟩ := trodAll_cons r1
  obtain ⟨rfl, rfl, rfl⟩ := trodAll_nil r2
  obtain rfl : args = #[v0, v1, v2] := by cases args; simp_all
  obtain ⟨rfl, rfl⟩ := trodVars_none hV
  have k0 := h0
  have lt0 : ∀ x ∈ p0, x.block < W.heap.size := by obtain ⟨m, hm⟩ := k0; exact DataW.trod_lt m _ _ _ hm
  obtain ⟨p0', l0, c0, rfl, b0, n0, z0, y0⟩ := sts_open Tryd.underlying22 Tryd.underlying9 (by kernel_rfl) (by kernel_rfl) (by obtain ⟨a, b, c, hh⟩ := okWide_slice Tryd.underlying22 (hval 0 22 v0 rfl rfl); exact ⟨a, b, c, hh⟩) h0.choose_spec (hsz 0 22 d0 rfl rfl)
  have k1 := h1
  have lt1 : ∀ x ∈ p1, x.block < W.heap.size := by obtain ⟨m, hm⟩ := k1; exact DataW.trod_lt m _ _ _ hm
  obtain ⟨p1', l1, c1, rfl, b1, n1, z1, y1, f1⟩ := ptc_open (okWide_struct Tryd.underlying25 (hval 1 25 v1 rfl rfl)) h1.choose_spec (hsz 1 25 d1 rfl rfl)
  obtain ⟨a2, rfl, rfl, rfl, w2⟩ := open_int Tryd.underlying3 (hval 2 3 v2 rfl rfl) h2
  clear hA0 hval0 hsz hsz0
  refine (shifted_walk p0' l0 c0 p1' l1 c1 a2 W b0 n0 z0 y0 b1 n1 z1 y1 f1 w2).mono fun e W' ⟨he, bel⟩ => ?_
  subst he
  exact ⟨_, rfl, _, _, _, [], _, [], hW', trodAll_mk1 (shut_bool Tryd.underlying4 _), (trodAll_cons_mk (Below.trod laidOut (by kernel_rfl) (of_decide_eq_true (by kernel_rfl)) k0 bel lt0) (trodAll_cons_mk (Below.trod laidOut (by kernel_rfl) (of_decide_eq_true (by kernel_rfl)) k1 bel lt1) (trodAll_cons_mk (shut_int Tryd.underlying3 w2) trodAll_mk0))), rfl, bel.frame _, fun h => by cases h⟩

theorem over : Rows.unifiedShiftedRow.holds Tryd.pinned (OpenSpec.ofChange Rows.unifiedShiftedSpec) :=
  OpenClaim.holds_of_wide 7 Tryd.f7 rfl rfl rfl rfl rfl rfl rfl ⟨rfl, rfl, rfl, rfl, rfl⟩ rfl rfl rfl rfl rfl (by kernel_rfl) Tryd.func7 (by kernel_rfl)
    (of_decide_eq_true (by kernel_rfl)) (by unfold Func.isWrapper; first | (rw [if_pos (by decide +kernel)]; kernel_rfl) | (rw [if_neg (by decide +kernel)]; exact ⟨rfl, rfl⟩))
    (fun os started H enc _ => lifted os started H enc)

theorem proved : Rows.UnifiedShiftedCardSaid :=
  Claim7.holds_tied_plain_at .later [] [.data, .data, .data] true (true, "76022676f7bec5c95092ade5bc30a4a70eb17a8b652efefb4cac29eb9e3a65e3") true over (fun _ h => by cases h) (by kernel_rfl) (fun _ h => by cases h) unifiedShifted_row_tie rfl ⟨rfl, rfl⟩ (by kernel_rfl) rfl
    (fun f fn hf hfn => by
      obtain rfl : f = 7 := Option.some.inj ((show Tryd.prog.funcNamed "changeforge/changeforgelaw1.UnifiedShifted" = some 7 by kernel_rfl).symm.trans hf) |>.symm
      obtain rfl : fn = Tryd.f7 := (Option.some.inj (Tryd.func7.symm.trans hfn)).symm
      exact ⟨by kernel_rfl, fun j t ht => by
        rw [Tryd.params7] at ht
        have hm : t ∈ [22, 25, 3] := by simpa using Array.mem_of_getElem? ht
        have hall : ([22, 25, 3].all fun u => !Tryd.prog.wantsStandIn u) = true := by kernel_rfl
        exact (show Tryd.prog.wantsStandIn t = false by simpa using List.all_eq_true.1 hall t hm)⟩)
    (by kernel_rfl)
end Go.Proofs.YteamghlcaalapaaDoor.lawUnifiedShifted
