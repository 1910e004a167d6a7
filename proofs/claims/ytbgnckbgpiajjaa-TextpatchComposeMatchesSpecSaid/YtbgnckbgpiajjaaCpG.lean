/-
  textpatch.middlePlaces: the closure that grows the row of places.
  The row of places against the two patches (K: the first one, seen from its new text).
  textpatch.middlePlaces: what it does with a hunk of the first patch.
  textpatch.middlePlaces: the function that it hands to eachHunk, walked.
-/
import Derived.Test.YtbgnckbgpiajjaaCpF
import Derived.Test.YtbgnckbgpiajjaaCpM
import Derived.Deep.RegionHeld3
namespace Go.Proofs.Ytbgnckbgpiajjaa
open Go.RowKit
set_option maxRecDepth 4000

/-- a place's cells -/
structure Plr where
  d : Sv
  n : Sv
  mad : Bool
  rem : Bool
  ln : ByteArray
def plE : Enc Plr where
  ty := 127
  sl := 94
  size := 5
  bytes := 72
  z := .agg #[.slice none 0 0, .slice none 0 0, .bool false, .bool false, .string ByteArray.empty]
  enc x := [sv x.d, sv x.n, .bool x.mad, .bool x.rem, .string x.ln]
  len _ := rfl
  one _ u h := by
    rcases List.mem_cons.1 h with rfl | h
    · rfl
    rcases List.mem_cons.1 h with rfl | h
    · rfl
    rcases List.mem_cons.1 h with rfl | h
    · rfl
    rcases List.mem_cons.1 h with rfl | h
    · rfl
    · rw [List.mem_singleton.1 h]; rfl
  pos := by decide
  zs := rfl
  und := Try.underlying94
  inf := by kernel_rfl
def zpl : Plr := ⟨(none, 0, 0), (none, 0, 0), false, false, ByteArray.empty⟩
theorem pl_one (w : World) (H : Nat) (hH : w.heap.size = H) (t : TypeId) (k : Nat) (u : Value) (h : (plE.enc zpl)[k]? = some u) : (w.alloc (.cells #[.slice none 0 0, .slice none 0 0, .bool false, .bool false, .string ⟨#[]⟩] t (0, 0))).cell? ((⟨H, 0, none⟩ : Addr).add k) = some u := by
  subst hH
  rw [add_at, Nat.zero_add, World.cell?_alloc_mark]
  simp only [plE, zpl, sv] at h
  match k, h with
  | 0, h => simpa using h
  | 1, h => simpa using h
  | 2, h => simpa using h
  | 3, h => simpa using h
  | 4, h => exact h
  | k + 5, h => simp at h
/-- the row of places while it is made: block plg holds its slice -/
structure PlI (plg C : Nat) (w : World) (v : Value) (rs : List Plr) : Prop where
  c : w.cell? ⟨plg, 0, none⟩ = some v
  f : w.frozen? ⟨plg, 0, none⟩ = false
  lt : plg < C
  le : C ≤ w.heap.size
  own : OwnE plE C w v rs
theorem PlI.up {plg C : Nat} {w w' : World} {v : Value} {rs : List Plr} (h : PlI plg C w v rs) (hb : Below w.heap.size w w') : PlI plg C w' v rs := by
  have h1 := h.lt; have h2 := h.le; have hz := hb.size
  exact ⟨by rw [hb.cell (p := ⟨plg, 0, none⟩) (by dsimp only; omega), h.c], by rw [hb.frozen (p := ⟨plg, 0, none⟩) (by dsimp only; omega), h.f], h.lt, by omega, h.own.up hb⟩
/-- one place more -/
theorem PlI.push {plg C : Nat} {w w2 : World} {v v' : Value} {rs : List Plr} (h : PlI plg C w v rs) (y : Plr) (hG : w.grownBy w2 v.ownBlock) (own : OwnE plE C w2 v' (rs ++ [y])) : PlI plg C (w2.setCell ⟨plg, 0, none⟩ v') v' (rs ++ [y]) ∧
    w2.cell? ⟨plg, 0, none⟩ = some v ∧ w2.frozen? ⟨plg, 0, none⟩ = false := by
  have h1 := h.lt; have h2 := h.le; have hz := hG.size
  have hv : v.ownBlock ≠ some plg := fun e => by have := own_block h.own _ e; omega
  have k1 := hG.cell h.c (Ne.symm hv)
  have k2 : w2.frozen? ⟨plg, 0, none⟩ = false := by rw [hG.frozen_far ⟨plg, 0, none⟩ (by dsimp only; omega) (Ne.symm hv), h.f]
  exact ⟨⟨World.cell?_setCell_same _ _ _ k1, by rw [World.frozen?_setCell]; exact k2, h1, by rw [World.size_setCell]; omega, ownsRow_setCell_below own (by dsimp only; omega) _⟩, k1, k2⟩

def atM (plg n : Nat) (w : World) : Nat := match w.cell? ⟨plg, 0, none⟩ with | some (.slice _ m _) => n - m | _ => 0
/-- what at(i) leaves -/
structure AtP (plg C i : Nat) (w : World) (v : Value) (rs : List Plr) (g cap : Nat) (w' : World) : Prop where
  pl : PlI plg C w' (.slice (some ⟨g, 0, none⟩) (rs.length + (i + 1 - rs.length)) cap) (rs ++ List.replicate (i + 1 - rs.length) zpl)
  bel : Below plg w w'
  keep : ∀ k, k < w.heap.size → k ≠ plg → v.ownBlock ≠ some k → w'.heap[k]? = w.heap[k]?
  new : v.ownBlock = some g ∨ w.heap.size ≤ g
set_option maxRecDepth 100000 in
set_option maxHeartbeats 4000000 in
theorem place_any (plg C i : Nat) (z : Int) (hz : z = (i : Int)) (v : Value) (rs : List Plr) (w : World) (h : PlI plg C w v rs) (hi : i ≤ 20000) :
    Calls Try.prog 100 #[.int .i64 z, .pointer (some ⟨plg, 0, none⟩)] w fun e w' => ∃ g cap, e = .returned (.pointer (some ⟨g, i * 5, none⟩)) ∧ AtP plg C i w v rs g cap w' := by
  subst hz
  have HI := Lib.hid h
  obtain ⟨p0, c0, e0', -⟩ := row_of_own h.own
  have E0 := Lib.hid e0'
  clear h e0'
  go_enter Try.func100, Try.ntmps100
  go_wp2_with fail
  go_loopw [7] (fun _ wr => ∃ (j : Nat) (p : Option Addr) (cap : Nat), j ≤ i + 1 - rs.length ∧ wr.cell? ⟨plg, 0, none⟩ = some (.slice p (rs.length + j) cap) ∧ Hid (PlI plg C wr (.slice p (rs.length + j) cap) (rs ++ List.replicate j zpl)) ∧ Hid (Below plg w wr) ∧
    Hid (∀ k, k < w.heap.size → k ≠ plg → v.ownBlock ≠ some k → wr.heap[k]? = w.heap[k]?) ∧ Hid (∀ b, p = some b → v.ownBlock = some b.block ∨ w.heap.size ≤ b.block)) (fun _ wr => atM plg (i + 1) wr)
  case atStart =>
    have e0 := E0.out
    have hh := HI.out
    rw [e0] at hh
    refine ⟨0, p0, c0, Nat.zero_le _, hh.c, Lib.hid (by simpa using hh), Lib.hid (Below.refl _ _), Lib.hid (fun _ _ _ _ => rfl), Lib.hid (fun b hb => ?_)⟩
    subst hb
    rw [e0]; exact .inl rfl
  case round =>
    obtain ⟨j, p, cap, hj, hc, hPI, hB, hK, hN⟩ := hrel
    have mm : atM plg (i + 1) wr = i + 1 - (rs.length + j) := by unfold atM; rw [hc]
    have hlt' := hPI.out.lt
    have hle' := hPI.out.le
    by_cases hlt : rs.length + j ≤ i
    · have g1 : decide (rs.length + j ≤ i) = true := by simpa using hlt
      have hf := hPI.out.f
      have hvn : (Value.slice p (rs.length + j) cap).ownBlock ≠ some plg := fun e => by have := own_block hPI.out.own _ e; omega
      have b1 := up_alloc (Below.refl wr.heap.size wr) (.cells #[.slice none 0 0, .slice none 0 0, .bool false, .bool false, .string ⟨#[]⟩] 127 (0, 0))
      have PU := hPI.out.up b1
      clear hPI
      go_wp2_with (at_builtin; refine Stop.out ?_)
      refine ⟨?_⟩
      refine wp_appE_at plE rfl (.tmp 8) (.tmp 10) rfl C (.slice p (rs.length + j) cap) (rs ++ List.replicate j zpl) zpl _ 1 rfl PU.own rfl (pl_one _ _ (by first | rfl | simp) _) (by simp [plE]; omega) (by simp; omega) (by simp; omega) ?_
      intro v' w2 own2 gr2 hat2
      obtain ⟨gg, cc, rfl⟩ := own_succ (m := rs.length + j) own2 (by simp)
      obtain ⟨PP, q1, q2⟩ := PU.push zpl gr2 own2
      have hzz := gr2.size
      have HP2 : Hid (PlI plg C (w2.setCell ⟨plg, 0, none⟩ (.slice (some ⟨gg, 0, none⟩) (rs.length + (j + 1)) cc)) (.slice (some ⟨gg, 0, none⟩) (rs.length + (j + 1)) cc) (rs ++ List.replicate (j + 1) zpl)) := Lib.hid (by
        rw [List.replicate_succ', ← List.append_assoc]; exact PP)
      have HB2 : Hid (Below plg w (w2.setCell ⟨plg, 0, none⟩ (.slice (some ⟨gg, 0, none⟩) (rs.length + (j + 1)) cc))) := Lib.hid (((hB.out.trans (b1.mono (by omega))).grown gr2 (by simp; omega) (fun b hb => by have := own_block PU.own b hb; omega)).setCell (by dsimp only; omega) _)
      have HK2 : Hid (∀ k, k < w.heap.size → k ≠ plg → v.ownBlock ≠ some k → (w2.setCell ⟨plg, 0, none⟩ (.slice (some ⟨gg, 0, none⟩) (rs.length + (j + 1)) cc)).heap[k]? = w.heap[k]?) := Lib.hid (fun k hk h1 h2 => by
        have hz := hB.out.size
        have hzs : (wr.alloc (.cells #[.slice none 0 0, .slice none 0 0, .bool false, .bool false, .string ⟨#[]⟩] 127 (0, 0))).heap.size = wr.heap.size + 1 := by simp
        rw [Below.heap_setCell _ _ _ _ (by exact h1), gr2.block k (by omega) (fun e => ?_), b1.block k (by omega), hK.out k hk h1 h2]
        cases p with
        | none => cases e
        | some b =>
          have e' : b.block = k := (Option.some.inj e).symm
          rcases hN.out b rfl with e2 | e2
          · exact h2 (by rw [e2, e'])
          · omega)
      have HN2 : Hid (∀ b : Addr, some (⟨gg, 0, none⟩ : Addr) = some b → v.ownBlock = some b.block ∨ w.heap.size ≤ b.block) := Lib.hid (fun b hb => by
        cases hb
        have hz := hB.out.size
        rcases hat2 with e | e
        · cases p with
          | none => cases e
          | some b =>
            have e' : gg = b.block := Option.some.inj e
            have := hN.out b rfl
            dsimp only
            rw [e']; exact this
        · have e' : gg = _ := Option.some.inj e
          right
          dsimp only
          simp at e'
          omega)
      have hc2 := HP2.out.c
      have mm2 : atM plg (i + 1) (w2.setCell ⟨plg, 0, none⟩ (.slice (some ⟨gg, 0, none⟩) (rs.length + (j + 1)) cc)) = i + 1 - (rs.length + (j + 1)) := by unfold atM; rw [hc2]
      have hc3 := Lib.hid hc2
      have mm3 := Lib.hid mm2
      clear hc2 mm2 own2 gr2 hat2 PP PU b1 hB hK hN hc
      go_wp2_with fail
      go_roundw
      case rel => exact ⟨j + 1, _, cc, by omega, hc3.out, HP2, HB2, HK2, HN2⟩
      case measure => exact (by rw [mm]; have := mm3.out; simp only [Nat.add_assoc] at this ⊢; omega)
    · have g1 : decide (rs.length + j ≤ i) = false := by simpa using hlt
      have ej : j = i + 1 - rs.length := by omega
      have b1 : (i : Int) < ((rs.length + j : Nat) : Int) := by omega
      have b0 : (0 : Int) ≤ (i : Int) := by omega
      obtain ⟨g, rfl⟩ : ∃ g, p = some ⟨g, 0, none⟩ := by
        obtain ⟨-, ⟨e', h0⟩ | ⟨g, cap2, cur, e', r⟩⟩ := hPI.out.own
        · exfalso
          rw [List.length_append, List.length_replicate] at h0
          omega
        · injection e' with e1 _ _
          exact ⟨g, e1⟩
      have FIN := Lib.hid (And.intro hPI.out (And.intro hB.out (And.intro hK.out (hN.out _ rfl))))
      clear hPI hB hK hN
      go_wp2_with fail
      go_returns
      refine ⟨g, rfl, cap, ?_, FIN.out.2.1, FIN.out.2.2.1, FIN.out.2.2.2⟩
      rw [← ej]
      exact FIN.out.1
end Go.Proofs.Ytbgnckbgpiajjaa
namespace Go.Proofs.Ytbgnckbgpiajjaa
open Go.RowKit

theorem flat_set {α : Type} (e : Enc α) (y : α) (u : Value) (k : Nat) : ∀ (l : List α) (i : Nat) (hi : i < l.length), k < e.size → e.enc y = (e.enc l[i]).set k u → (l.flatMap e.enc).set (i * e.size + k) u = (l.set i y).flatMap e.enc := by
  intro l
  induction l with
  | nil => intro i hi; simp at hi
  | cons x l ih =>
    intro i hi hk hy
    have hx := e.len x
    cases i with
    | zero =>
      rw [List.flatMap_cons, Nat.zero_mul, Nat.zero_add, List.set_append_left _ _ (by omega), List.set_cons_zero, List.flatMap_cons, hy]
      rfl
    | succ i =>
      have hm : (i + 1) * e.size = i * e.size + e.size := by rw [Nat.add_mul, Nat.one_mul]
      rw [List.flatMap_cons, List.set_append_right _ _ (by rw [hm]; omega), hx, show (i + 1) * e.size + k - e.size = i * e.size + k by rw [hm]; omega, ih i (by simpa using hi) hk (by simpa using hy), List.set_cons_succ, List.flatMap_cons]
/-- a cell of an own row is written -/
theorem OwnE.stored {α : Type} {e : Enc α} {base : Nat} {w : World} {g n cap : Nat} {l : List α} (h : OwnE e base w (.slice (some ⟨g, 0, none⟩) n cap) l) {i k : Nat} (hi : i < l.length) (hk : k < e.size) (y : α) (u : Value) (hy : e.enc y = (e.enc l[i]).set k u) :
    OwnE e base (w.setCell ⟨g, i * e.size + k, none⟩ u) (.slice (some ⟨g, 0, none⟩) n cap) (l.set i y) := by
  have hn : n = l.length := by
    obtain ⟨p, c, e', -⟩ := row_of_own h
    injection e'
  subst hn
  unfold OwnE at h ⊢
  have hs := (h.stored (i * e.size + k) u).1
  rw [flat_set e y u k l i hi hk hy] at hs
  simpa using hs
/-- the cells of a place -/
theorem PlI.cells {plg C g n cap : Nat} {w : World} {rs : List Plr} (h : PlI plg C w (.slice (some ⟨g, 0, none⟩) n cap) rs) {i : Nat} (hi : i < rs.length) :
    w.cell? ⟨g, i * 5, none⟩ = some (sv rs[i].d) ∧ w.cell? ⟨g, i * 5 + 1, none⟩ = some (sv rs[i].n) ∧ w.cell? ⟨g, i * 5 + 2, none⟩ = some (.bool rs[i].mad) ∧ w.cell? ⟨g, i * 5 + 3, none⟩ = some (.bool rs[i].rem) ∧ w.cell? ⟨g, i * 5 + 4, none⟩ = some (.string rs[i].ln) ∧
      (∀ k, w.frozen? ⟨g, k, none⟩ = false) ∧ C ≤ g ∧ g < w.heap.size := by
  obtain ⟨p, cap', e, hr, -⟩ := row_of_own h.own
  obtain ⟨b, off, hp, hbz, hcell⟩ := hr.cell hi
  have hb := own_block h.own g rfl
  obtain ⟨-, ⟨e', -⟩ | ⟨g', cap2, cur, e', hb', hg, r⟩⟩ := h.own
  · cases e'
  · cases e'
    injection e with e1 e2 e3
    rw [hp] at e1
    injection e1 with e1
    injection e1 with e1 e4 _
    subst e1 e4
    simp only [Nat.zero_add] at hcell
    exact ⟨hcell 0 _ rfl, hcell 1 _ rfl, hcell 2 _ rfl, hcell 3 _ rfl, hcell 4 _ rfl, fun k => frozen_of_row w g k cur _ hg, hb.1, hb.2⟩
theorem PlI.set {plg C g n cap : Nat} {w : World} {rs : List Plr} (h : PlI plg C w (.slice (some ⟨g, 0, none⟩) n cap) rs) {i k : Nat} (hi : i < rs.length) (hk : k < 5) (y : Plr) (u : Value) (hy : plE.enc y = (plE.enc rs[i]).set k u) :
    PlI plg C (w.setCell ⟨g, i * 5 + k, none⟩ u) (.slice (some ⟨g, 0, none⟩) n cap) (rs.set i y) := by
  have h1 := h.lt; have h2 := h.le
  have hb := own_block h.own g rfl
  refine ⟨?_, by rw [World.frozen?_setCell]; exact h.f, h.lt, by rw [World.size_setCell]; exact h.le, h.own.stored hi hk y u hy⟩
  rw [World.cell?_setCell_other (h := by intro e; injection e with e1 _ _; omega)]
  exact h.c

/-- the places as far as K and q touch them -/
structure PlS (w0 : World) (K q : List Tp.H) (rs : List Plr) : Prop where
  far : Tp.nt (Tp.nt 0 K) q ≤ rs.length
  at' : ∀ i (hi : i < rs.length), Rd w0 rs[i].d (Tp.vi K i) ∧ Rd w0 rs[i].n (Tp.vi q i) ∧ rs[i].mad = (Tp.vd K i).isSome ∧ rs[i].rem = (Tp.vd q i).isSome ∧ (∀ x, Tp.vd K i = some x → rs[i].ln = x) ∧ (∀ x, Tp.vd q i = some x → rs[i].ln = x)
  sz : ∀ r ∈ rs, r.ln.size ≤ 140737488351232
theorem rd_nil (w : World) : Rd w (none, 0, 0) [] := ⟨⟨by simp, by simp, fun _ => rfl, fun h => (h rfl).elim⟩, rfl, fun _ => rfl, Nat.le_refl _⟩
theorem PlS.start (w0 : World) : PlS w0 [] [] [] := ⟨Nat.le_refl _, (fun i hi => by simp at hi), (fun r hr => by cases hr)⟩
theorem PlS.far' {w0 : World} {K q : List Tp.H} {rs : List Plr} (h : PlS w0 K q rs) (k0 : ∀ x ∈ K, 0 ≤ x.at') (q0 : ∀ x ∈ q, 0 ≤ x.at') (i : Nat) (hi : rs.length ≤ i) : Tp.vi K i = [] ∧ Tp.vd K i = none ∧ Tp.vi q i = [] ∧ Tp.vd q i = none := by
  have a1 := Tp.nt_ge K 0
  have a2 := Tp.nt_ge q (Tp.nt 0 K)
  have hf := h.far
  obtain ⟨b1, b2⟩ := Tp.v_far K k0 _ a1.2 i (by omega)
  obtain ⟨b3, b4⟩ := Tp.v_far q q0 _ a2.2 i (by omega)
  exact ⟨b1, b2, b3, b4⟩
theorem PlS.grow {w0 : World} {K q : List Tp.H} {rs : List Plr} (h : PlS w0 K q rs) (k0 : ∀ x ∈ K, 0 ≤ x.at') (q0 : ∀ x ∈ q, 0 ≤ x.at') (m : Nat) : PlS w0 K q (rs ++ List.replicate m zpl) := by
  refine ⟨by rw [List.length_append]; have := h.far; omega, fun i hi => ?_, fun r hr => by
    rcases List.mem_append.1 hr with hr | hr
    · exact h.sz r hr
    · rw [List.eq_of_mem_replicate hr]; decide⟩
  rcases Nat.lt_or_ge i rs.length with hl | hl
  · rw [List.getElem_append_left hl]
    exact h.at' i hl
  · rw [List.getElem_append_right hl, List.getElem_replicate]
    obtain ⟨b1, b2, b3, b4⟩ := h.far' k0 q0 i hl
    rw [b1, b2, b3, b4]
    exact ⟨rd_nil _, rd_nil _, rfl, rfl, (fun x hx => by cases hx), (fun x hx => by cases hx)⟩
theorem PlS.set {w0 : World} {K q K' q' : List Tp.H} {rs : List Plr} (h : PlS w0 K q rs) (k : Nat) (hk : k < rs.length) (y : Plr) (hz : y.ln.size ≤ 140737488351232) (hf : Tp.nt (Tp.nt 0 K') q' ≤ rs.length)
    (ho : ∀ i, i ≠ k → Tp.vi K' i = Tp.vi K i ∧ Tp.vd K' i = Tp.vd K i ∧ Tp.vi q' i = Tp.vi q i ∧ Tp.vd q' i = Tp.vd q i)
    (hy : Rd w0 y.d (Tp.vi K' k) ∧ Rd w0 y.n (Tp.vi q' k) ∧ y.mad = (Tp.vd K' k).isSome ∧ y.rem = (Tp.vd q' k).isSome ∧ (∀ x, Tp.vd K' k = some x → y.ln = x) ∧ (∀ x, Tp.vd q' k = some x → y.ln = x)) : PlS w0 K' q' (rs.set k y) := by
  refine ⟨by rw [List.length_set]; exact hf, fun i hi => ?_, fun r hr => by
    rcases List.mem_or_eq_of_mem_set hr with hr | rfl
    · exact h.sz r hr
    · exact hz⟩
  rw [List.length_set] at hi
  by_cases e : i = k
  · subst e
    rw [List.getElem_set_self]
    exact hy
  · rw [List.getElem_set_ne (Ne.symm e)]
    obtain ⟨e1, e2, e3, e4⟩ := ho i e
    rw [e1, e2, e3, e4]
    exact h.at' i hi
theorem nt_mono (q : List Tp.H) : ∀ n m, n ≤ m → Tp.nt n q ≤ Tp.nt m q := by
  induction q with
  | nil => intro n m h; exact h
  | cons h r ih => intro n m e; rw [Tp.nt, Tp.nt]; exact ih _ _ (by omega)
theorem nt_max (q : List Tp.H) : ∀ n m, Tp.nt (max n m) q = max (Tp.nt n q) m := by
  induction q with
  | nil => intro n m; rfl
  | cons h r ih => intro n m; rw [Tp.nt, Tp.nt, show max (max n m) (h.at'.toNat + max 1 h.old.length) = max (max n (h.at'.toNat + max 1 h.old.length)) m by omega, ih]
/-- what the first patch deletes ahead of a line -/
theorem PlS.del {w0 : World} {K q : List Tp.H} {rs : List Plr} (h : PlS w0 K q rs) {a : Nat} {prev : Int} (old : List ByteArray) (g : Tp.Gp prev (K ++ [⟨(a : Int), [], old⟩])) (ha : a < rs.length) (o : Sv) (ho : Rd w0 o old) :
    PlS w0 (K ++ [⟨(a : Int), [], old⟩]) q (rs.set a { rs[a] with d := o }) := by
  have hd : ∀ i, Tp.vd (K ++ [⟨(a : Int), [], old⟩]) i = Tp.vd K i := fun i => by
    rw [Tp.vd_snoc g, if_neg]
    unfold Tp.en
    simp only [List.length_nil]
    omega
  refine h.set a ha _ (show rs[a].ln.size ≤ 140737488351232 from h.sz _ (List.getElem_mem ha)) ?_ (fun i hi => ⟨?_, hd i, rfl, rfl⟩) ?_
  · have := h.far
    rw [Tp.nt_snoc, nt_max]
    simp only [List.length_nil, Int.toNat_natCast]
    omega
  · rw [Tp.vi_snoc g, if_neg]
    dsimp only
    omega
  · rw [Tp.vi_snoc g, if_pos rfl, hd]
    obtain ⟨h1, h2, h3, h4, h5, h6⟩ := h.at' a ha
    exact ⟨ho, h2, h3, h4, h5, h6⟩
/-- what the second patch inserts ahead of a line -/
theorem PlS.ins {w0 : World} {K q : List Tp.H} {rs : List Plr} (h : PlS w0 K q rs) {a : Nat} {prev : Int} (new : List ByteArray) (g : Tp.Gp prev (q ++ [⟨(a : Int), [], new⟩])) (ha : a < rs.length) (o : Sv) (ho : Rd w0 o new) :
    PlS w0 K (q ++ [⟨(a : Int), [], new⟩]) (rs.set a { rs[a] with n := o }) := by
  have hd : ∀ i, Tp.vd (q ++ [⟨(a : Int), [], new⟩]) i = Tp.vd q i := fun i => by
    rw [Tp.vd_snoc g, if_neg]
    unfold Tp.en
    simp only [List.length_nil]
    omega
  refine h.set a ha _ (show rs[a].ln.size ≤ 140737488351232 from h.sz _ (List.getElem_mem ha)) ?_ (fun i hi => ⟨rfl, rfl, ?_, hd i⟩) ?_
  · have := h.far
    rw [Tp.nt_snoc]
    simp only [List.length_nil, Int.toNat_natCast]
    omega
  · rw [Tp.vi_snoc g, if_neg]
    dsimp only
    omega
  · rw [Tp.vi_snoc g, if_pos rfl, hd]
    obtain ⟨h1, h2, h3, h4, h5, h6⟩ := h.at' a ha
    exact ⟨h1, ho, h3, h4, h5, h6⟩
theorem gp_less {K : List Tp.H} {a : Int} {l l' new : List ByteArray} : ∀ {prev : Int}, Tp.Gp prev (K ++ [⟨a, l, new⟩]) → Tp.Gp prev (K ++ [⟨a, l', new⟩]) := by
  induction K with
  | nil => intro prev g; exact ⟨g.1, trivial⟩
  | cons x K ih => intro prev g; exact ⟨g.1, ih g.2⟩
theorem vd_more {K : List Tp.H} {a : Nat} {l new : List ByteArray} {x : ByteArray} {prev : Int} (g : Tp.Gp prev (K ++ [⟨(a : Int), l, new⟩])) (i : Nat) : Tp.vd (K ++ [⟨(a : Int), l ++ [x], new⟩]) i = if i = a + l.length then some x else Tp.vd (K ++ [⟨(a : Int), l, new⟩]) i := by
  rw [Tp.vd_snoc (gp_less g), Tp.vd_snoc g]
  unfold Tp.en
  simp only [List.length_append, List.length_singleton, Int.toNat_natCast]
  by_cases e : i = a + l.length
  · subst e
    rw [if_pos rfl, if_pos (by omega), show a + l.length - a = l.length by omega]
    simp
  · rw [if_neg e]
    by_cases k : a ≤ i ∧ i < a + l.length
    · rw [if_pos (by omega), if_pos (by omega), List.getElem?_append_left (by omega)]
    · rw [if_neg (by omega), if_neg (by omega)]
theorem vi_more {K : List Tp.H} {a : Int} {l l' new : List ByteArray} {prev : Int} (g : Tp.Gp prev (K ++ [⟨a, l, new⟩])) (i : Nat) : Tp.vi (K ++ [⟨a, l', new⟩]) i = Tp.vi (K ++ [⟨a, l, new⟩]) i := by
  rw [Tp.vi_snoc (gp_less g), Tp.vi_snoc g]
/-- a line that the first patch made -/
theorem PlS.made {w0 : World} {K : List Tp.H} {rs : List Plr} {a : Nat} {l new : List ByteArray} {prev : Int} (h : PlS w0 (K ++ [⟨(a : Int), l, new⟩]) [] rs) (g : Tp.Gp prev (K ++ [⟨(a : Int), l, new⟩])) (x : ByteArray) (hz : x.size ≤ 140737488351232) (i : Nat) (hi : i = a + l.length) (ha : i < rs.length) :
    PlS w0 (K ++ [⟨(a : Int), l ++ [x], new⟩]) [] (rs.set i { rs[i] with mad := true, ln := x }) := by
  subst hi
  refine h.set _ ha _ hz ?_ (fun i hi => ⟨vi_more g i, by rw [vd_more g, if_neg hi], rfl, rfl⟩) ?_
  · have := h.far
    rw [Tp.nt_snoc, Tp.nt] at this ⊢
    simp only [List.length_append, List.length_singleton, Int.toNat_natCast] at this ⊢
    omega
  · obtain ⟨h1, h2, h3, h4, h5, h6⟩ := h.at' _ ha
    rw [vd_more g, if_pos rfl, vi_more g]
    exact ⟨h1, h2, rfl, h4, (fun y hy => by injection hy), (fun y hy => by cases hy)⟩
/-- a line that the second patch removes -/
theorem PlS.gone {w0 : World} {K q : List Tp.H} {rs : List Plr} {a : Nat} {l new : List ByteArray} {prev : Int} (h : PlS w0 K (q ++ [⟨(a : Int), l, new⟩]) rs) (g : Tp.Gp prev (q ++ [⟨(a : Int), l, new⟩])) (x : ByteArray) (hz : x.size ≤ 140737488351232) (i : Nat) (hi : i = a + l.length) (ha : i < rs.length) (hc : ∀ y, Tp.vd K i = some y → y = x) :
    PlS w0 K (q ++ [⟨(a : Int), l ++ [x], new⟩]) (rs.set i { rs[i] with rem := true, ln := x }) := by
  subst hi
  refine h.set _ ha _ hz ?_ (fun i hi => ⟨rfl, rfl, vi_more g i, by rw [vd_more g, if_neg hi]⟩) ?_
  · have := h.far
    rw [Tp.nt_snoc] at this ⊢
    simp only [List.length_append, List.length_singleton, Int.toNat_natCast] at this ⊢
    omega
  · obtain ⟨h1, h2, h3, h4, h5, h6⟩ := h.at' _ ha
    rw [vd_more g, if_pos rfl, vi_more g]
    exact ⟨h1, h2, h3, rfl, (fun y hy => (hc y hy).symm), (fun y hy => by injection hy)⟩
end Go.Proofs.Ytbgnckbgpiajjaa
namespace Go.Proofs.Ytbgnckbgpiajjaa
open Go.RowKit

theorem gp_take {K : List Tp.H} : ∀ {prev : Int} (k : Nat), Tp.Gp prev K → Tp.Gp prev (K.take k) := by
  induction K with
  | nil => intro prev k _; rw [List.take_nil]; trivial
  | cons x K ih =>
    intro prev k g
    cases k with
    | zero => trivial
    | succ k => exact ⟨g.1, ih k g.2⟩
/-- a hunk of the first patch, seen from its new text -/
theorem iv_hunk {hs : List Tp.H} (hv : Tp.Vp hs) (k : Nat) (hk : k < hs.length) : ∃ a : Nat, hs[k].at' + Tp.gr (hs.take k) = (a : Int) ∧ a ≤ 15720 ∧ (Tp.iv 0 hs).take (k + 1) = (Tp.iv 0 hs).take k ++ [⟨(a : Int), hs[k].new, hs[k].old⟩] ∧ Tp.Gp (-1) ((Tp.iv 0 hs).take k ++ [⟨(a : Int), hs[k].new, hs[k].old⟩]) := by
  have hk' : k < (Tp.iv 0 hs).length := by rw [Tp.iv_len]; exact hk
  have gp : Tp.Gp (-1) (Tp.iv 0 hs) := (Tp.ch_gp hv.ch).iv 0
  have e := Tp.iv_get hs 0 k hk hk'
  have h0 := Tp.gp_pos gp (by omega) _ (List.getElem_mem hk')
  rw [e] at h0
  dsimp only at h0
  obtain ⟨⟨pr, hok⟩, -⟩ := Tp.ch_at hv.ch k hk
  have z1 := hok.hi
  have gb := Tp.gr_bound (hs.take k) (fun x hx => by
    have := Tp.ch_new hv.ch x (List.mem_of_mem_take hx)
    exact ⟨(Lin.vC_zero this.2).1, (Lin.vC_zero this.1).1⟩)
  have hl := hv.len
  rw [List.length_take] at gb
  have et : (Tp.iv 0 hs).take (k + 1) = (Tp.iv 0 hs).take k ++ [⟨(((hs[k].at' + Tp.gr (hs.take k)).toNat : Nat) : Int), hs[k].new, hs[k].old⟩] := by
    rw [List.take_succ_eq_append_getElem hk', e, show (((hs[k].at' + Tp.gr (hs.take k)).toNat : Nat) : Int) = hs[k].at' + 0 + Tp.gr (hs.take k) by omega]
  refine ⟨(hs[k].at' + Tp.gr (hs.take k)).toNat, by omega, by omega, et, ?_⟩
  rw [← et]
  exact gp_take _ gp
/-- the row of places behind some calls: it is as it was outside its own blocks -/
structure PlN (plg C : Nat) (w0 : World) (K q : List Tp.H) (w : World) (v : Value) (w2 : World) (v2 : Value) (rs2 : List Plr) : Prop where
  pl : PlI plg C w2 v2 rs2
  st : PlS w0 K q rs2
  len : rs2.length ≤ 16000
  bel : Below plg w w2
  keep : ∀ k, k < w.heap.size → k ≠ plg → v.ownBlock ≠ some k → w2.heap[k]? = w.heap[k]?
  new : ∀ b, v2.ownBlock = some b → v.ownBlock = some b ∨ w.heap.size ≤ b
theorem PlN.refl {plg C : Nat} {w0 : World} {K q : List Tp.H} {w : World} {v : Value} {rs : List Plr} (h : PlI plg C w v rs) (s : PlS w0 K q rs) (l : rs.length ≤ 16000) : PlN plg C w0 K q w v w v rs :=
  ⟨h, s, l, Below.refl _ _, fun _ _ _ _ => rfl, fun _ h => .inl h⟩
theorem PlN.up {plg C : Nat} {w0 : World} {K q : List Tp.H} {w w2 w3 : World} {v v2 : Value} {rs2 : List Plr} (h : PlN plg C w0 K q w v w2 v2 rs2) (hb : Below w2.heap.size w2 w3) : PlN plg C w0 K q w v w3 v2 rs2 := by
  have h1 := h.pl.lt; have h2 := h.pl.le; have h3 := h.bel.size
  exact ⟨h.pl.up hb, h.st, h.len, h.bel.trans (hb.mono (by omega)), fun k hk e1 e2 => by rw [hb.block k (by omega), h.keep k hk e1 e2], h.new⟩
/-- behind at(i) -/
theorem PlN.at' {plg C i g cap : Nat} {w0 : World} {K q : List Tp.H} {w w2 w3 : World} {v v2 : Value} {rs2 : List Plr} (h : PlN plg C w0 K q w v w2 v2 rs2) (k0 : ∀ x ∈ K, 0 ≤ x.at') (q0 : ∀ x ∈ q, 0 ≤ x.at') (hi : i < 16000) (ha : AtP plg C i w2 v2 rs2 g cap w3) :
    ∃ (rs3 : List Plr) (n : Nat), PlN plg C w0 K q w v w3 (.slice (some ⟨g, 0, none⟩) n cap) rs3 ∧ i < rs3.length := by
  have h1 := h.pl.lt; have h2 := h.pl.le; have h3 := h.bel.size
  have hl := h.len
  refine ⟨_, _, ⟨ha.pl, h.st.grow k0 q0 _, by simp; omega, h.bel.trans ha.bel, fun k hk e1 e2 => ?_, fun b hb => ?_⟩, by simp; omega⟩
  · rw [ha.keep k (by omega) e1 (fun e => ?_), h.keep k hk e1 e2]
    rcases h.new k e with e3 | e3
    · exact e2 e3
    · omega
  · have hb' : g = b := Option.some.inj hb
    subst hb'
    rcases ha.new with e | e
    · exact h.new g e
    · exact .inr (by omega)
/-- a cell of a place is written -/
theorem PlN.set {plg C i k g n cap : Nat} {w0 : World} {K q K' q' : List Tp.H} {w w2 : World} {v : Value} {rs2 : List Plr} (h : PlN plg C w0 K q w v w2 (.slice (some ⟨g, 0, none⟩) n cap) rs2) (hi : i < rs2.length) (hk : k < 5) (y : Plr) (u : Value) (hy : plE.enc y = (plE.enc rs2[i]).set k u) (st : PlS w0 K' q' (rs2.set i y)) :
    PlN plg C w0 K' q' w v (w2.setCell ⟨g, i * 5 + k, none⟩ u) (.slice (some ⟨g, 0, none⟩) n cap) (rs2.set i y) := by
  have hb := own_block h.pl.own g rfl
  have h1 := h.pl.lt
  have hn := h.new g rfl
  refine ⟨h.pl.set hi hk y u hy, st, by rw [List.length_set]; exact h.len, h.bel.setCell (by dsimp only; omega) _, fun j hj e1 e2 => ?_, h.new⟩
  rw [Below.heap_setCell _ _ _ _ (by
    dsimp only
    intro e
    subst e
    rcases hn with e3 | e3
    · exact e2 e3
    · omega), h.keep j hj e1 e2]
/-- two cells of a place are written -/
theorem PlN.set2 {plg C i k k' g n cap : Nat} {w0 : World} {K q K' q' : List Tp.H} {w w2 : World} {v : Value} {rs2 : List Plr} (h : PlN plg C w0 K q w v w2 (.slice (some ⟨g, 0, none⟩) n cap) rs2) (hi : i < rs2.length) (hk : k < 5) (hk' : k' < 5) (y : Plr) (u u' : Value) (z : Plr) (hz : plE.enc z = (plE.enc rs2[i]).set k u) (hy : plE.enc y = (plE.enc z).set k' u') (st : PlS w0 K' q' (rs2.set i y)) :
    PlN plg C w0 K' q' w v ((w2.setCell ⟨g, i * 5 + k, none⟩ u).setCell ⟨g, i * 5 + k', none⟩ u') (.slice (some ⟨g, 0, none⟩) n cap) (rs2.set i y) := by
  have hb := own_block h.pl.own g rfl
  have h1 := h.pl.lt
  have hn := h.new g rfl
  have p1 := h.pl.set hi hk z u hz
  have p2 := p1.set (i := i) (k := k') (by rw [List.length_set]; exact hi) hk' y u' (by rw [List.getElem_set_self]; exact hy)
  rw [List.set_set] at p2
  refine ⟨p2, st, by rw [List.length_set]; exact h.len, (h.bel.setCell (by dsimp only; omega) _).setCell (by dsimp only; omega) _, fun j hj e1 e2 => ?_, h.new⟩
  have hne : j ≠ g := fun e => by
    subst e
    rcases hn with e3 | e3
    · exact e2 e3
    · omega
  rw [Below.heap_setCell _ _ _ _ hne, Below.heap_setCell _ _ _ _ hne, h.keep j hj e1 e2]
end Go.Proofs.Ytbgnckbgpiajjaa
namespace Go.Proofs.Ytbgnckbgpiajjaa
open Go.RowKit

theorem PlN.far {plg C : Nat} {w0 : World} {K q : List Tp.H} {w w2 : World} {v v2 : Value} {rs rs2 : List Plr} (h : PlN plg C w0 K q w v w2 v2 rs2) (hI : PlI plg C w v rs) {b : Nat} (hb : b < C) (hn : b ≠ plg) : w2.heap[b]? = w.heap[b]? := by
  have := hI.le
  exact h.keep b (by omega) hn (fun e => by have := own_block hI.own _ e; omega)
theorem PlN.box {plg C : Nat} {w0 : World} {K q : List Tp.H} {w w2 : World} {v v2 : Value} {rs2 : List Plr} (h : PlN plg C w0 K q w v w2 v2 rs2) {a : Addr} (hb : a.block < w.heap.size) (hn : a.block ≠ plg) (hv : v.ownBlock ≠ some a.block) : w2.cell? a = w.cell? a := World.cell?_of_block (h.keep _ hb hn hv)

set_option maxRecDepth 100000 in
set_option maxHeartbeats 4000000 in
theorem visit_any (plg atg C k : Nat) (hs : List Tp.H) (w0 w : World) (v : Value) (rs : List Plr) (o n : Sv) (hv : Tp.Vp hs) (hk : k < hs.length) (hI : PlI plg C w v rs)
    (hat : w.cell? ⟨atg, 0, none⟩ = some (.func (.func 100) #[] #[.pointer (some ⟨plg, 0, none⟩)])) (hac : atg < C) (hne : atg ≠ plg) (hS : PlS w0 ((Tp.iv 0 hs).take k) [] rs) (hl : rs.length ≤ 16000)
    (hB : Below w0.heap.size w0 w) (h0 : w0.heap.size ≤ plg) (ro : Rd w0 o hs[k].old) (rn : Rd w0 n hs[k].new) :
    Calls Try.prog 101 #[.agg #[.int .i64 hs[k].at', sv o, sv n], .int .i64 (hs[k].at' + Tp.gr (hs.take k)), .pointer (some ⟨atg, 0, none⟩)] w
      fun e w2 => e = .returned (.tuple #[]) ∧ ∃ v2 rs2, PlN plg C w0 ((Tp.iv 0 hs).take (k + 1)) [] w v w2 v2 rs2 := by
  obtain ⟨a, ha, ha2, het, hgp⟩ := iv_hunk hv k hk
  have lnl := (Lin.vC_zero (Tp.ch_new hv.ch hs[k] (List.getElem_mem hk)).1).1
  rw [het, ha]
  obtain ⟨K, hK⟩ : ∃ K, K = (Tp.iv 0 hs).take k := ⟨_, rfl⟩
  rw [← hK] at hS hgp ⊢
  obtain ⟨⟨z, ol, nl⟩, hx⟩ : ∃ x, x = hs[k] := ⟨_, rfl⟩
  rw [← hx] at ro rn hgp lnl ⊢
  dsimp only at ro rn hgp lnl ⊢
  clear hx hK het ha hv hk
  have GP := Lib.hid hgp
  have KP := Lib.hid (Tp.gp_pos hgp (by omega))
  obtain ⟨o1, o2, o3⟩ := o
  obtain ⟨n1, n2, n3⟩ := n
  have l1 := ro.len
  have l2 := rn.len
  dsimp only at l1 l2
  subst l1 l2
  simp only [sv]
  have RO := Lib.hid ro
  have RN := Lib.hid rn
  have BW := Lib.hid hB
  have HI := Lib.hid hI
  have KP0 : Hid (∀ x ∈ K, 0 ≤ x.at') := Lib.hid (fun x hx => KP.out x (List.mem_append_left _ hx))
  have NOA : Hid (v.ownBlock ≠ some atg) := Lib.hid (fun e => by have := (own_block hI.own _ e).1; omega)
  have hb1 := up_alloc (Below.refl w.heap.size w) (.cells #[.int .i64 z, .slice o1 ol.length o3, .slice n1 nl.length n3] 81 (0, 0))
  have N0 := Lib.hid ((PlN.refl hI hS hl).up hb1)
  have U1 := Hu.new w z (.slice o1 ol.length o3) (.slice n1 nl.length n3) 81
  have hcw := hI.le
  have hpc := hI.lt
  have at1 := (hb1.cell (p := ⟨atg, 0, none⟩) (by dsimp only; omega)).trans hat
  have hzW : (w.alloc (.cells #[.int .i64 z, .slice o1 ol.length o3, .slice n1 nl.length n3] 81 (0, 0))).heap.size = w.heap.size + 1 := by simp
  have NOW : Hid (v.ownBlock ≠ some w.heap.size) := Lib.hid (fun e => by have := (own_block hI.own _ e).2; omega)
  clear ro rn hB hS hb1 hgp hI
  go_enter Try.func101, Try.ntmps101
  go_wp2_with fail
  obtain ⟨W, hW⟩ : ∃ W, W = w.alloc (.cells #[.int .i64 z, .slice o1 ol.length o3, .slice n1 nl.length n3] 81 (0, 0)) := ⟨_, rfl⟩
  rw [← hW] at N0 U1 at1 hzW ⊢
  clear hW
  obtain ⟨x0, x1, x2, x3⟩ := U1
  have HZW := Lib.hid hzW
  clear hzW
  go_region_held3 (fun w' => w'.cell? ⟨w.heap.size, 1, none⟩ = some (.slice o1 ol.length o3) ∧ w'.cell? ⟨atg, 0, none⟩ = some (.func (.func 100) #[] #[.pointer (some ⟨plg, 0, none⟩)])) (go_keep)
    (first
      | (go_at_call 100
         refine (place_any plg C a _ rfl v rs _ ((N0.out.up (by first | exact Below.refl _ _ | exact (Below.refl _ _).drew | exact (Below.refl _ _).drew.drew)).pl) (by omega)).mono ?_
         rintro e wA ⟨g, cap, rfl, AP⟩
         have c1A : wA.cell? ⟨w.heap.size, 1, none⟩ = some (.slice o1 ol.length o3) := (World.cell?_of_block (a := ⟨w.heap.size, 1, none⟩) (AP.keep w.heap.size (by show w.heap.size < W.heap.size; have := HZW.out; omega) (by omega) NOW.out)).trans x1
         have cAA : wA.cell? ⟨atg, 0, none⟩ = some (.func (.func 100) #[] #[.pointer (some ⟨plg, 0, none⟩)]) := (World.cell?_of_block (a := ⟨atg, 0, none⟩) (AP.keep atg (by show atg < W.heap.size; have := HZW.out; omega) hne NOA.out)).trans at1
         obtain ⟨rsA, nA, NA1, NA2⟩ := (N0.out.up (by first | exact Below.refl _ _ | exact (Below.refl _ _).drew | exact (Below.refl _ _).drew.drew)).at' KP0.out (fun x hx => by cases hx) (by omega) AP
         obtain ⟨k0, -, -, -, -, kf, kg, -⟩ := NA1.pl.cells NA2
         have gw : g ≠ w.heap.size := fun e => by
           rcases AP.new with e2 | e2
           · rw [e] at e2; exact NOW.out e2
           · have e3 : W.heap.size ≤ g := e2
             have := HZW.out
             omega
         have sA1 : (wA.setCell ⟨g, a * 5, none⟩ (.slice o1 ol.length o3)).cell? ⟨w.heap.size, 1, none⟩ = some (.slice o1 ol.length o3) := by rw [World.cell?_setCell_other (h := by intro e; injection e with e1 _ _; omega)]; exact c1A
         have sA2 : (wA.setCell ⟨g, a * 5, none⟩ (.slice o1 ol.length o3)).cell? ⟨w.heap.size, 2, none⟩ = some (.slice n1 nl.length n3) := by rw [World.cell?_setCell_other (h := by intro e; injection e with e1 _ _; omega), World.cell?_of_block (a := ⟨w.heap.size, 2, none⟩) (AP.keep w.heap.size (by show w.heap.size < W.heap.size; have := HZW.out; omega) (by omega) NOW.out)]; exact x2
         have sAA : (wA.setCell ⟨g, a * 5, none⟩ (.slice o1 ol.length o3)).cell? ⟨atg, 0, none⟩ = some (.func (.func 100) #[] #[.pointer (some ⟨plg, 0, none⟩)]) := by rw [World.cell?_setCell_other (h := by intro e; injection e with e1 _ _; omega)]; exact cAA
         have kf0 := kf (a * 5)
         have NAH := Lib.hid NA1
         clear AP NA1 kf gw))
  have N1 := Lib.hid (NAH.out.set (k := 0) NA2 (by omega) { rsA[a] with d := (o1, ol.length, o3) } (.slice o1 ol.length o3) rfl (NAH.out.st.del ol (gp_less GP.out) NA2 _ RO.out))
  obtain ⟨WA, hWA⟩ : ∃ WA, WA = wA.setCell ⟨g, a * 5, none⟩ (.slice o1 ol.length o3) := ⟨_, rfl⟩
  simp only [Nat.add_zero] at N1
  rw [← hWA] at N1 sA2 ⊢
  rename_i hHeld
  clear hHeld sA1 sAA k0 kf0 c1A cAA hWA
  go_wp2_with fail
  go_loopw [18] (fun i wr => ∃ (j : Nat) (v2 : Value) (rs2 : List Plr), j ≤ nl.length ∧ i = .int .i64 j ∧ Hid (PlN plg C w0 (K ++ [⟨(a : Int), nl.take j, ol⟩]) [] w v wr v2 rs2)) (fun i _ => nl.length - (intOf i).toNat)
  case atStart => exact ⟨0, _, _, Nat.zero_le _, rfl, N1⟩
  case round =>
    obtain ⟨j, v2, rs2, hj, rfl, hN⟩ := hrel
    clear N1
    have b0 : (0 : Int) ≤ (j : Int) := by omega
    by_cases hlt : j < nl.length
    · have g1 : decide (j < nl.length) = true := by simpa using hlt
      have b1 : (j : Int) < (nl.length : Int) := by omega
      have bw : Below w0.heap.size w0 wr := BW.out.trans (hN.out.bel.mono h0)
      obtain ⟨b, off, rfl, hbb, hc⟩ := RN.out.sts.at' (by intro e; rw [e] at hlt; simp at hlt)
      have cl := (bw.cell (p := ⟨b, off + j, none⟩) hbb).trans (hc j hlt)
      have at2 : wr.cell? ⟨atg, 0, none⟩ = some (.func (.func 100) #[] #[.pointer (some ⟨plg, 0, none⟩)]) := (World.cell?_of_block (a := ⟨atg, 0, none⟩) (hN.out.far HI.out hac hne)).trans hat
      have wz : IntKind.i64.wrap ((a : Int) + (j : Int)) = (a : Int) + (j : Int) := IntWalk.i64_in _ (by omega)
      rw [show nl.getD j ByteArray.empty = nl[j] by simp [List.getD_eq_getElem?_getD, hlt]] at cl
      clear bw hc
      go_wp2_with fail
      refine (place_any plg C (a + j) _ (by omega) v2 rs2 _ hN.out.pl (by omega)).mono ?_
      rintro e w3 ⟨g3, cap3, rfl, AP⟩
      obtain ⟨rs3, n3', N3, hl3⟩ := hN.out.at' (by have := KP.out; intro x hx; rcases List.mem_append.1 hx with hx | hx; exact KP0.out x hx; rw [List.mem_singleton.1 hx]; dsimp only; omega) (fun x hx => by cases hx) (by omega) AP
      obtain ⟨-, -, k2, -, k4, kf, -, -⟩ := N3.pl.cells hl3
      have kf2 := kf ((a + j) * 5 + 2)
      have kf4 := kf ((a + j) * 5 + 4)
      have lt : (nl.take j).length = j := by rw [List.length_take]; omega
      have st := N3.st.made (gp_less GP.out) nl[j] (RN.out.sts.small _ (List.getElem_mem hlt)) (a + j) (by rw [lt]) hl3
      rw [← List.take_succ_eq_append_getElem hlt] at st
      have N4 := Lib.hid (N3.set2 (k := 2) (k' := 4) hl3 (by omega) (by omega) { rs3[a + j] with mad := true, ln := nl[j] } (.bool true) (.string nl[j]) { rs3[a + j] with mad := true } rfl rfl st)
      clear kf AP N3 st lt
      go_wp2_with fail
      go_roundw
      case rel => exact ⟨j + 1, _, _, hlt, by go_num, N4⟩
      case measure => first | (simp [intOf]; done) | (simp [intOf]; omega)
    · have g1 : decide (j < nl.length) = false := by simpa using hlt
      obtain rfl : j = nl.length := by omega
      rw [List.take_length] at hN
      go_wp2_with fail
      go_returns
      exact ⟨rfl, _, _, hN.out⟩
end Go.Proofs.Ytbgnckbgpiajjaa
