
/-
  The program's startsOf and deletedRanges, walked; rows of numbers and of pairs of numbers.
-/
import Derived.Test.YtkfloglpihbdjaaWdA
import Derived.Test.YtkfloglpihbdjaaTpB
import Derived.IntWalk
import Derived.Deep.RegionHeld3
namespace Go.Proofs.Ytkfloglpihbdjaa
open Go.RowKit
set_option maxRecDepth 4000

def ntE : Enc Nat where
  ty := 3
  sl := 71
  size := 1
  bytes := 8
  z := .int .i64 0
  enc n := [.int .i64 (n : Int)]
  len _ := rfl
  one _ u h := by rw [List.mem_singleton.1 h]; rfl
  pos := by decide
  zs := rfl
  und := Try.underlying71
  inf := by kernel_rfl
theorem nt_one (w : World) (H : Nat) (hH : w.heap.size = H) (n : Nat) (z : Int) (hz : z = (n : Int)) (t : TypeId) (k : Nat) (u : Value) (h : (ntE.enc n)[k]? = some u) : (w.alloc (.cells #[.int .i64 z] t (0, 0))).cell? ((⟨H, 0, none⟩ : Addr).add k) = some u := by
  subst hH hz
  rw [add_at, Nat.zero_add, World.cell?_alloc_mark]
  simp only [ntE] at h
  match k, h with
  | 0, h => simpa using h
/-- a pair of numbers -/
def prE : Enc (Nat × Nat) where
  ty := 61
  sl := 27
  size := 2
  bytes := 16
  z := .agg #[.int .i64 0, .int .i64 0]
  enc p := [.int .i64 (p.1 : Int), .int .i64 (p.2 : Int)]
  len _ := rfl
  one _ u h := by
    rcases List.mem_cons.1 h with rfl | h
    · rfl
    · rw [List.mem_singleton.1 h]; rfl
  pos := by decide
  zs := rfl
  und := Try.underlying27
  inf := by kernel_rfl
theorem pr_one (w : World) (H : Nat) (hH : w.heap.size = H) (x y : Nat) (z z' : Int) (hz : z = (x : Int)) (hz' : z' = (y : Int)) (t : TypeId) (k : Nat) (u : Value) (h : (prE.enc (x, y))[k]? = some u) : (w.alloc (.cells #[.int .i64 z, .int .i64 z'] t (0, 0))).cell? ((⟨H, 0, none⟩ : Addr).add k) = some u := by
  subst hH hz hz'
  rw [add_at, Nat.zero_add, World.cell?_alloc_mark]
  simp only [prE] at h
  match k, h with
  | 0, h => simpa using h
  | 1, h => simpa using h
  | k + 2, h => simp at h
theorem ownE_lit1 (w : World) (n : Nat) (base : Nat) (hb : base ≤ w.heap.size) : OwnE ntE base (w.alloc (.cells #[.int .i64 (n : Int)] 3 (0, 0))) (.slice (some ⟨w.heap.size, 0, none⟩) 1 1) [n] :=
  World.ownsRow_lit w #[.int .i64 (n : Int)] 1 hb (by decide) rfl
/-- where the tokens begin, and the end -/
def stf (t : List ByteArray) (k : Nat) : List Nat := (List.range (k + 1)).map (Wd.pos t)
theorem stf_len (t : List ByteArray) (k : Nat) : (stf t k).length = k + 1 := by unfold stf; simp
theorem stf_zero (t : List ByteArray) : stf t 0 = [0] := by simp [stf, Wd.pos, Wd.jo]
theorem stf_next (t : List ByteArray) (k : Nat) : stf t (k + 1) = stf t k ++ [Wd.pos t (k + 1)] := by unfold stf; rw [List.range_succ, List.map_append]; rfl
theorem stf_at (t : List ByteArray) (k i : Nat) (h : i < (stf t k).length) : (stf t k)[i] = Wd.pos t i := by simp [stf]
theorem pos_next (t : List ByteArray) (k : Nat) (h : k < t.length) : Wd.pos t (k + 1) = Wd.pos t k + t[k].size := by
  unfold Wd.pos; rw [List.take_succ_eq_append_getElem h, Wd.jo_app, Wd.jo_one, List.length_append, Wd.dl]
theorem pos_le (t : List ByteArray) (k : Nat) : Wd.pos t k ≤ (Wd.jo t).length := by
  have : (Wd.jo t).length = (Wd.jo (t.take k)).length + (Wd.jo (t.drop k)).length := by rw [← List.length_append, ← Wd.jo_app, List.take_append_drop]
  unfold Wd.pos; omega
def NtPost (l : List Nat) (w : World) (e : Ending) (w' : World) : Prop := ∃ v, e = .returned v ∧ OwnE ntE w.heap.size w' v l ∧ Below w.heap.size w w'
def PrPost (l : List (Nat × Nat)) (w : World) (e : Ending) (w' : World) : Prop := ∃ v, e = .returned v ∧ OwnE prE w.heap.size w' v l ∧ Below w.heap.size w w'
theorem nt_cell {w : World} {p : Option Addr} {l : List Nat} (h : Row ntE w p l) {i : Nat} (hi : i < l.length) : ∃ b off, p = some ⟨b, off, none⟩ ∧ b < w.heap.size ∧ w.cell? ⟨b, off + i, none⟩ = some (.int .i64 (l[i] : Nat)) := by
  obtain ⟨b, off, h1, h2, h3⟩ := h.cell hi
  exact ⟨b, off, h1, h2, by have := h3 0 _ rfl; simpa [ntE] using this⟩

set_option maxHeartbeats 4000000 in
theorem starts_any (p : Option Addr) (l : List ByteArray) (n cap : Nat) (w : World) (hn : n = l.length) (hp : Sts w p l) (hT : (Wd.jo l).length ≤ 1000000) (hl : l.length ≤ 1000000) :
    Calls Try.prog 42 #[.slice p n cap] w (NtPost (stf l l.length) w) := by
  subst hn
  have HP := Lib.hid hp
  have OW := Lib.hid (ownE_lit1 w 0 w.heap.size (Nat.le_refl _))
  have u0 := Lib.hid (up_alloc (Below.refl w.heap.size w) (.cells #[.int .i64 0] 3 (0, 0)))
  clear hp
  go_enter Try.func42, Try.ntmps42
  go_wp2_with fail
  go_loopw [3, 9] (fun o i wr => ∃ k : Nat, k ≤ l.length ∧ i = .int .i64 k ∧ Hid (OwnE ntE w.heap.size wr o (stf l k)) ∧ Hid (Below w.heap.size w wr)) (fun _ i _ => l.length - (intOf i).toNat)
  case atStart => exact ⟨0, Nat.zero_le _, rfl, Lib.hid (by rw [stf_zero]; exact OW.out), u0⟩
  case round =>
    obtain ⟨k, hk, rfl, own, hB⟩ := hrel
    have hzr := hB.out.size
    have hsl := stf_len l k
    by_cases hlt : k < l.length
    · have b7 : (0 : Int) ≤ (k : Int) := by omega
      have b8 : (k : Int) < (l.length : Int) := by omega
      obtain ⟨b, off, rfl, hb, hc⟩ := HP.out.cell hlt
      replace hc := (hB.out.cell (p := ⟨b, off + k, none⟩) hb).trans hc
      obtain ⟨q, cq, rfl, row, -, -, -⟩ := row_of_own own.out
      obtain ⟨b2, off2, rfl, hb2, hc2⟩ := nt_cell row (i := k) (by omega)
      rw [stf_at] at hc2
      rw [hsl] at own ⊢
      have hx := Lib.hid (pos_next l k hlt)
      have hsn := Lib.hid (stf_next l k)
      have hpl := pos_le l (k + 1)
      obtain ⟨x, hx'⟩ : ∃ x, x = l[k] := ⟨_, rfl⟩
      rw [← hx'] at hc hx
      obtain ⟨y, hy⟩ : ∃ y, y = Wd.pos l k := ⟨_, rfl⟩
      rw [← hy] at hc2 hx
      have hpl' := hx.out ▸ hpl
      have wz : IntKind.i64.wrap ((y : Int) + (x.size : Int)) = (y : Int) + (x.size : Int) := IntWalk.i64_in _ (by omega)
      have b9 : (k : Int) < (k : Int) + 1 := by omega
      clear hx' hy row hpl
      go_wp2_with (at_builtin; refine wp_appE ntE rfl (.tmp 14) (.tmp 22) rfl w.heap.size _ (stf l k) (y + x.size) _ _ rfl (own.out.alloc _) rfl (nt_one _ _ rfl _ _ (by omega) _) (by simp [ntE]; omega) (by omega) (by simp; omega) ?_; intro v2 w2 own2 bel2)
      go_roundw
      case rel => exact ⟨k + 1, hlt, by go_num, Lib.hid (by rw [hsn.out, hx.out]; exact own2), Lib.hid (up_own (up_alloc hB.out _) bel2)⟩
      case measure => first | (simp [intOf]; done) | (simp [intOf]; omega)
    · obtain rfl : k = l.length := by omega
      go_wp2_with fail
      go_ret
      exact ⟨_, rfl, own.out, hB.out⟩

theorem pl_next (hs : List Tp.H) (k : Nat) (h : k < hs.length) : Wd.pl (hs.take (k + 1)) = Wd.pl (hs.take k) ++ [(hs[k].at'.toNat, (hs[k].at' + hs[k].old.length).toNat)] := by
  unfold Wd.pl; rw [List.take_succ_eq_append_getElem h, List.map_append]; rfl
theorem dr_next (t : List ByteArray) (hs : List Tp.H) (k : Nat) (h : k < hs.length) (x y : Nat) (hx : hs[k].at' = x) (hy : y = x + hs[k].old.length) :
    Wd.dr t (Wd.pl (hs.take (k + 1))) = Wd.dr t (Wd.pl (hs.take k)) ++ (if 0 < hs[k].old.length then [(Wd.pos t x, Wd.pos t y)] else []) := by
  rw [pl_next hs k h, Wd.dr_app]
  congr 1
  rw [hx, show (x : Int).toNat = x by omega, show ((x : Int) + (hs[k].old.length : Nat)).toNat = y by omega]
  unfold Wd.dr
  by_cases h0 : 0 < hs[k].old.length
  · rw [if_pos h0]; simp only [List.filter, decide_eq_true (show x < y by omega)]; rfl
  · rw [if_neg h0]; simp only [List.filter, decide_eq_false (show ¬ x < y by omega)]; rfl
theorem dr_len (t : List ByteArray) (l : List (Nat × Nat)) : (Wd.dr t l).length ≤ l.length := by
  unfold Wd.dr; rw [List.length_map]; exact List.length_filter_le _ _

set_option maxRecDepth 100000 in
set_option maxHeartbeats 4000000 in
theorem deleted_any (p : Option Addr) (hs : List Tp.H) (n cap : Nat) (q : Option Addr) (t : List ByteArray) (m cap' : Nat) (w : World) (hn : n = hs.length) (hm : m = t.length) (hp : Ptc w p hs) (hq : Sts w q t) (hl : hs.length ≤ 1000) (hT : (Wd.jo t).length ≤ 1000000) (hl' : t.length ≤ 1000)
    (hat : ∀ h ∈ hs, 0 ≤ h.at' ∧ h.at' + h.old.length ≤ t.length) :
    Calls Try.prog 24 #[.agg #[.slice p n cap], .slice q m cap'] w (PrPost (Wd.dr t (Wd.pl hs)) w) := by
  subst hn hm
  have b0 := up_alloc (Below.refl w.heap.size w) (.cells #[.slice p hs.length cap] 48 (0, 0))
  have HP := Lib.hid (hp.mono b0)
  have HQ := Lib.hid (hq.mono b0)
  have HA := Lib.hid hat
  have O0 := Lib.hid (One.new w (.slice p hs.length cap) 48 w.heap.size rfl)
  have B0 := Lib.hid b0
  clear hp hq hat b0
  go_enter Try.func24, Try.ntmps24
  go_wp2_with fail
  refine (starts_any q t _ _ _ rfl HQ.out hT (by omega)).mono ?_
  rintro e w1 ⟨v, rfl, own, hb1⟩
  obtain ⟨ps, cs, rfl, row, -, -, -⟩ := row_of_own own
  rw [stf_len]
  have RW := Lib.hid row
  have B1 := Lib.hid (up_call B0.out hb1)
  have HP1 := Lib.hid (HP.out.mono hb1)
  have oc := (O0.out.up hb1).c
  clear own row O0 HP HQ B0 hb1
  go_wp2_with fail
  go_loopw [6, 14] (fun o i wr => ∃ k : Nat, k ≤ hs.length ∧ i = .int .i64 k ∧ Hid (OwnE prE w1.heap.size wr o (Wd.dr t (Wd.pl (hs.take k)))) ∧ Hid (Below w1.heap.size w1 wr)) (fun _ i _ => hs.length - (intOf i).toNat)
  case atStart => exact ⟨0, Nat.zero_le _, rfl, Lib.hid (ownE_nil _ _ _), Lib.hid (Below.refl _ _)⟩
  case round =>
    obtain ⟨k, hk, rfl, own, hB⟩ := hrel
    have hzr := hB.out.size
    by_cases hlt : k < hs.length
    · have b7 : (0 : Int) ≤ (k : Int) := by omega
      have b8 : (k : Int) < (hs.length : Int) := by omega
      obtain ⟨b, off, rfl, hbb0, ⟨o1, o2, o3⟩, ⟨n1, n2, n3⟩, c0, c1, c2, r1, r2⟩ := HP1.out.cell hlt
      replace c0 := (hB.out.cell (p := ⟨b, off + k * 3, none⟩) hbb0).trans c0
      replace c1 := (hB.out.cell (p := ⟨b, off + k * 3 + 1, none⟩) hbb0).trans c1
      replace c2 := (hB.out.cell (p := ⟨b, off + k * 3 + 2, none⟩) hbb0).trans c2
      obtain ⟨a1, a2⟩ := HA.out hs[k] (List.getElem_mem hlt)
      obtain ⟨x, hx⟩ : ∃ x : Nat, hs[k].at' = (x : Int) := ⟨hs[k].at'.toNat, by omega⟩
      obtain ⟨y, hy⟩ : ∃ y, y = x + hs[k].old.length := ⟨_, rfl⟩
      have dn := Lib.hid (dr_next t hs k hlt x y hx hy)
      have dl := dr_len t (Wd.pl (hs.take k))
      have pk : (Wd.pl (hs.take k)).length = k := by unfold Wd.pl; rw [List.length_map, List.length_take]; omega
      have l1 := r1.len
      have l2 := r2.len
      dsimp only at l1 l2
      subst l1 l2
      simp only [sv] at c1 c2
      rw [hx] at c0 a2
      obtain ⟨⟨z, ol, nl⟩, hh⟩ : ∃ x, x = hs[k] := ⟨_, rfl⟩
      rw [← hh] at c1 c2 a2 dn hy
      dsimp only at c1 c2 a2 dn hy
      have hb1 := up_alloc (Below.refl wr.heap.size wr) (.cells #[.int .i64 (x : Int), .slice o1 ol.length o3, .slice n1 nl.length n3] 67 (0, 0))
      have B2 := Lib.hid (up_alloc hB.out (.cells #[.int .i64 (x : Int), .slice o1 ol.length o3, .slice n1 nl.length n3] 67 (0, 0)))
      have own1 := Lib.hid (own.out.up hb1)
      have U2 := Lib.hid (Hu.new wr (x : Int) (.slice o1 ol.length o3) (.slice n1 nl.length n3) 67)
      have hzW : (wr.alloc (.cells #[.int .i64 (x : Int), .slice o1 ol.length o3, .slice n1 nl.length n3] 67 (0, 0))).heap.size = wr.heap.size + 1 := by simp
      clear hh hx r1 r2 hb1
      by_cases h0 : 0 < ol.length
      · have g0 : decide (0 < ol.length) = true := decide_eq_true h0
        rw [if_pos h0] at dn
        obtain ⟨b2, f2, rfl, hb2, s1⟩ := nt_cell RW.out (i := x) (by rw [stf_len]; omega)
        obtain ⟨b3, f3, e3, hb3, s2⟩ := nt_cell RW.out (i := y) (by rw [stf_len]; omega)
        cases e3
        rw [stf_at] at s1 s2
        replace s1 := (B2.out.cell (p := ⟨b2, f2 + x, none⟩) hb2).trans s1
        replace s2 := (B2.out.cell (p := ⟨b2, f2 + y, none⟩) hb2).trans s2
        have e1 : (x : Int) + (ol.length : Int) = (y : Int) := by omega
        have b9 : (0 : Int) ≤ (x : Int) := by omega
        have b10 : (x : Int) < (t.length : Int) + 1 := by omega
        have b11 : (0 : Int) ≤ (y : Int) := by omega
        have b12 : (y : Int) < (t.length : Int) + 1 := by omega
        have wy : IntKind.i64.wrap (y : Int) = (y : Int) := IntWalk.i64_in _ (by omega)
        obtain ⟨px, hpx⟩ : ∃ u, u = Wd.pos t x := ⟨_, rfl⟩
        obtain ⟨py, hpy⟩ : ∃ u, u = Wd.pos t y := ⟨_, rfl⟩
        rw [← hpx] at s1 dn
        rw [← hpy] at s2 dn
        obtain ⟨dp, hdp⟩ : ∃ d, d = Wd.dr t (Wd.pl (hs.take k)) := ⟨_, rfl⟩
        rw [← hdp] at own1 dl dn
        clear hy hpx hpy h0 hdp
        go_wp2_with fail
        obtain ⟨W, hW⟩ : ∃ W, W = wr.alloc (.cells #[.int .i64 (x : Int), .slice o1 ol.length o3, .slice n1 nl.length n3] 67 (0, 0)) := ⟨_, rfl⟩
        rw [← hW] at B2 own1 U2 hzW s1 s2 ⊢
        clear hW
        obtain ⟨u0, u1, -, ul⟩ := U2.out
        obtain ⟨po, no, co, rfl⟩ : ∃ po no co, u6 = .slice po no co := by
          obtain ⟨p', c', e, -⟩ := row_of_own own1.out
          exact ⟨_, _, _, e⟩
        have hv1 : (Value.slice po no co).ownBlock ≠ some wr.heap.size := fun e => by have := own_block own.out _ e; omega
        have hv2 : (Value.slice po no co).ownBlock ≠ some b2 := fun e => by have := own_block own.out _ e; omega
        have G0 := World.grownBy_alloc W (.cells #[.int .i64 (px : Int), .int .i64 (py : Int)] 61 (0, 0)) none
        go_region_held3 (fun w' => w'.cell? ⟨wr.heap.size, 0, none⟩ = some (.int .i64 (x : Int)) ∧ w'.cell? ⟨wr.heap.size, 1, none⟩ = some (.slice o1 ol.length o3) ∧ w'.cell? ⟨b2, f2 + x, none⟩ = some (.int .i64 (px : Int)) ∧ w'.cell? ⟨b2, f2 + y, none⟩ = some (.int .i64 (py : Int))) (go_keep)
          (first
            | (refine step_appE prE _ (by rfl) (.tmp 22) (.tmp 38) (by rfl) w1.heap.size (.slice po no co) dp (px, py) ⟨wr.heap.size + 1, 0, none⟩ 1 (by rfl) (own1.out.alloc _) (by rfl) (pr_one _ (wr.heap.size + 1) (by first | exact hzW | simp [hzW]) px py _ _ rfl rfl _) (by simp [prE]; omega) (by first | omega | (simp; omega)) (by simp; omega) (wr.heap.size + 2) (by first | (simp [hzW]; done) | (simp; omega)) ?_
               intro gg cc w2 own2 gr2 hat2 hlz
               have G2 : World.grownBy W w2 (Value.slice po no co).ownBlock := by refine grow_trans ?_ gr2; exact ⟨G0.os, G0.tape, G0.output, G0.size, G0.block⟩
               have z1 := G2.cell u0 (Ne.symm hv1)
               have z2 := G2.cell u1 (Ne.symm hv1)
               have z3 := G2.cell s1 (Ne.symm hv2)
               have z4 := G2.cell s2 (Ne.symm hv2)))
        all_goals
          have BB : Hid (Below w1.heap.size w1 w2) := Lib.hid (B2.out.grown G2 (by have := B2.out.size; omega) fun k hk => (own_block own1.out k hk).1)
          have OO := Lib.hid own2
          clear own2 gr2 hat2 G2 z1 z2 z3 z4
          go_wp2_with fail
          go_roundw
          case rel => exact ⟨k + 1, hlt, by go_num, Lib.hid (by rw [dn.out]; exact OO.out), BB⟩
          case measure => first | (simp [intOf]; done) | (simp [intOf]; omega)
      · have g0 : decide (0 < ol.length) = false := decide_eq_false h0
        rw [if_neg h0, List.append_nil] at dn
        have H0 := Lib.hid h0
        clear h0
        go_wp2_with fail
        go_roundw
        case rel => exact ⟨k + 1, hlt, by go_num, Lib.hid (by rw [dn.out]; exact own1.out), B2⟩
        case measure => first | (simp [intOf]; done) | (simp [intOf]; omega)
    · obtain rfl : k = hs.length := by omega
      have OO := Lib.hid own.out
      rw [List.take_length] at OO
      go_wp2_with fail
      go_ret
      exact ⟨_, rfl, OO.out.le (by have := B1.out.size; omega), up_call B1.out hB.out⟩
end Go.Proofs.Ytkfloglpihbdjaa
