/-
  The program's changes: changeOf, changesOf, undoingsOf, growthBefore, walked.
  slices.IndexFunc and ContainsFunc at two types; the program's touches, walked.
-/
import Derived.Test.YtbgnckbgpiajjaaTqE
import Derived.Test.YtbgnckbgpiajjaaCpM
namespace Go.Proofs.Ytbgnckbgpiajjaa
open Go.RowKit
set_option maxRecDepth 4000

/-- a block that holds a change -/
structure Cc (w : World) (g : Nat) (a b c : Int) : Prop where
  c0 : w.cell? ⟨g, 0, none⟩ = some (.int .i64 a)
  c1 : w.cell? ⟨g, 1, none⟩ = some (.int .i64 b)
  c2 : w.cell? ⟨g, 2, none⟩ = some (.int .i64 c)
  f0 : w.frozen? ⟨g, 0, none⟩ = false
  f1 : w.frozen? ⟨g, 1, none⟩ = false
  f2 : w.frozen? ⟨g, 2, none⟩ = false
  lt : g < w.heap.size
theorem Cc.new (w : World) (a b c : Int) (t : TypeId) (g : Nat) (hg : g = w.heap.size) : Cc (w.alloc (.cells #[.int .i64 a, .int .i64 b, .int .i64 c] t (0, 0))) g a b c := by
  subst hg
  refine ⟨?_, ?_, ?_, ?_, ?_, ?_, by rw [World.size_alloc]; omega⟩
  · rw [World.cell?_alloc_mark]; rfl
  · rw [World.cell?_alloc_mark]; rfl
  · rw [World.cell?_alloc_mark]; rfl
  · rw [World.frozen?_alloc_mark]; rfl
  · rw [World.frozen?_alloc_mark]; rfl
  · rw [World.frozen?_alloc_mark]; rfl
theorem Cc.up {w w' : World} {g : Nat} {a b c : Int} (h : Cc w g a b c) (hb : Below w.heap.size w w') : Cc w' g a b c := by
  have hl := h.lt
  exact ⟨by rw [hb.cell (p := ⟨g, 0, none⟩) hl, h.c0], by rw [hb.cell (p := ⟨g, 1, none⟩) hl, h.c1], by rw [hb.cell (p := ⟨g, 2, none⟩) hl, h.c2],
    by rw [hb.frozen (p := ⟨g, 0, none⟩) hl, h.f0], by rw [hb.frozen (p := ⟨g, 1, none⟩) hl, h.f1], by rw [hb.frozen (p := ⟨g, 2, none⟩) hl, h.f2], Nat.lt_of_lt_of_le hl hb.size⟩
theorem Cc.set3 {w : World} {g : Nat} {a b c : Int} (h : Cc w g a b c) (x y z : Value) : (((w.setCell ⟨g, 0, none⟩ x).setCell ⟨g, 1, none⟩ y).setCell ⟨g, 2, none⟩ z).cell? ⟨g, 0, none⟩ = some x ∧
    (((w.setCell ⟨g, 0, none⟩ x).setCell ⟨g, 1, none⟩ y).setCell ⟨g, 2, none⟩ z).cell? ⟨g, 1, none⟩ = some y ∧ (((w.setCell ⟨g, 0, none⟩ x).setCell ⟨g, 1, none⟩ y).setCell ⟨g, 2, none⟩ z).cell? ⟨g, 2, none⟩ = some z := by
  have n01 : (⟨g, 0, none⟩ : Addr) ≠ ⟨g, 1, none⟩ := by simp
  have n02 : (⟨g, 0, none⟩ : Addr) ≠ ⟨g, 2, none⟩ := by simp
  have n12 : (⟨g, 1, none⟩ : Addr) ≠ ⟨g, 2, none⟩ := by simp
  refine ⟨?_, ?_, ?_⟩
  · rw [World.cell?_setCell_other (h := n02.symm), World.cell?_setCell_other (h := n01.symm), World.cell?_setCell_same (h := h.c0)]
  · rw [World.cell?_setCell_other (h := n12.symm)]
    exact World.cell?_setCell_same _ _ _ (by rw [World.cell?_setCell_other (h := n01), h.c1])
  · exact World.cell?_setCell_same _ _ _ (by rw [World.cell?_setCell_other (h := n12), World.cell?_setCell_other (h := n02), h.c2])

set_option maxHeartbeats 1000000 in
theorem changeOf_any (z : Int) (o1 n1 : Option Addr) (o2 o3 n2 n3 : Nat) (w : World) (h1 : -1000000 ≤ z) (h2 : z ≤ 1000000) (h3 : o2 ≤ 1000000) (h4 : n2 ≤ 1000000) :
    Calls Try.prog 93 #[.agg #[.int .i64 z, .slice o1 o2 o3, .slice n1 n2 n3]] w (BPost (.agg #[.int .i64 z, .int .i64 (z + (o2 : Int)), .int .i64 ((n2 : Int) - (o2 : Int))]) w) := by
  have wz : IntKind.i64.wrap (z + (o2 : Int)) = z + (o2 : Int) := IntWalk.i64_in _ (by omega)
  have wd : IntKind.i64.wrap ((n2 : Int) - (o2 : Int)) = (n2 : Int) - (o2 : Int) := IntWalk.i64_in _ (by omega)
  have Z := Cc.new (w.alloc (.cells #[.int .i64 z, .slice o1 o2 o3, .slice n1 n2 n3] 81 (0, 0))) 0 0 0 117 (w.heap.size + 1) (by simp)
  have U := (Hu.new w z (.slice o1 o2 o3) (.slice n1 n2 n3) 81).up (up_alloc (Below.refl _ _) (.cells #[.int .i64 0, .int .i64 0, .int .i64 0] 117 (0, 0)))
  obtain ⟨d0, d1, d2⟩ := Z.set3 (.int .i64 z) (.int .i64 (z + (o2 : Int))) (.int .i64 ((n2 : Int) - (o2 : Int)))
  obtain ⟨a0, a1, a2, a3, a4, a5, a6⟩ := Z
  obtain ⟨y0, y1, y2, y3⟩ := U
  go_enter Try.func93, Try.ntmps93
  go_wp2_with fail
  refine bodyPost_ret (v := .agg #[.int .i64 z, .int .i64 (z + (o2 : Int)), .int .i64 ((n2 : Int) - (o2 : Int))]) (by simp [results, Try.results93, go_sem]) rfl ⟨rfl, ?_⟩
  (repeat' (first | (with_reducible exact Below.refl _ _) | (with_reducible assumption) | (with_reducible refine below_drewN ?_ _) | (with_reducible refine Below.setCell ?_ ?_ _) | (with_reducible refine Below.alloc ?_ ?_ _) | (with_reducible refine Below.drew ?_) | go_size))

/-- a change, as an element -/
def chE : Enc Tp.Cg where
  ty := 117
  sl := 85
  size := 3
  bytes := 24
  z := .agg #[.int .i64 0, .int .i64 0, .int .i64 0]
  enc c := [.int .i64 c.fr, .int .i64 c.to, .int .i64 c.gr]
  len _ := rfl
  one _ u h := by
    rcases List.mem_cons.1 h with rfl | h
    · rfl
    rcases List.mem_cons.1 h with rfl | h
    · rfl
    · rw [List.mem_singleton.1 h]; rfl
  pos := by decide
  zs := rfl
  und := Try.underlying85
  inf := by kernel_rfl
theorem ch_one (w : World) (g : Nat) (hg : g = w.heap.size) (c : Tp.Cg) (a b d : Int) (ha : c.fr = a) (hb : c.to = b) (hd : c.gr = d) (t : TypeId) (k : Nat) (u : Value) (h : (chE.enc c)[k]? = some u) :
    (w.alloc (.cells #[.int .i64 a, .int .i64 b, .int .i64 d] t (0, 0))).cell? ((⟨g, 0, none⟩ : Addr).add k) = some u := by
  subst ha hb hd hg
  rw [add_at, Nat.zero_add, World.cell?_alloc_mark]
  simp only [chE] at h
  match k, h with
  | 0, h => simpa using h
  | 1, h => simpa using h
  | 2, h => simpa using h
  | k + 3, h => simp at h
theorem chE_cell {w : World} {p : Option Addr} {l : List Tp.Cg} (h : Row chE w p l) {i : Nat} (hi : i < l.length) :
    ∃ b off, p = some ⟨b, off, none⟩ ∧ b < w.heap.size ∧ w.cell? ⟨b, off + i * 3, none⟩ = some (.int .i64 l[i].fr) ∧ w.cell? ⟨b, off + i * 3 + 1, none⟩ = some (.int .i64 l[i].to) ∧ w.cell? ⟨b, off + i * 3 + 2, none⟩ = some (.int .i64 l[i].gr) := by
  obtain ⟨b, off, h1, h2, h3⟩ := h.cell hi
  exact ⟨b, off, h1, h2, h3 0 _ rfl, h3 1 _ rfl, h3 2 _ rfl⟩

/-- sizes of a patch that is moved -/
structure Bd (hs : List Tp.H) : Prop where
  len : hs.length ≤ 1000
  each : ∀ h ∈ hs, -1000000 ≤ h.at' ∧ h.at' ≤ 1000000 ∧ h.old.length ≤ 1000 ∧ h.new.length ≤ 1000
/-- .. of a list of changes -/
structure Bc (cs : List Tp.Cg) : Prop where
  len : cs.length ≤ 1000
  each : ∀ c ∈ cs, -100000000 ≤ c.fr ∧ c.fr ≤ 100000000 ∧ -100000000 ≤ c.to ∧ c.to ≤ 100000000 ∧ -1000 ≤ c.gr ∧ c.gr ≤ 1000
theorem bd_of {hs : List Tp.H} (h : Tp.Vp hs) : Bd hs := by
  refine ⟨by have := h.len; omega, fun x hx => ?_⟩
  obtain ⟨k, hk, rfl⟩ := List.mem_iff_getElem.1 hx
  obtain ⟨⟨pr, hok⟩, -⟩ := Tp.ch_at h.ch k hk
  have z0 := hok.lo
  have z1 := hok.hi
  have z2 := (Lin.vC_zero hok.old).1
  have z3 := (Lin.vC_zero hok.new).1
  omega
theorem bc_cg {hs : List Tp.H} (h : Bd hs) : Bc (Tp.cg hs) := by
  refine ⟨by unfold Tp.cg; rw [List.length_map]; exact h.len, fun c hc => ?_⟩
  obtain ⟨x, hx, rfl⟩ := List.mem_map.1 hc
  have := h.each x hx
  unfold Tp.chg Tp.en
  dsimp only
  omega
theorem gr_bd {hs : List Tp.H} (h : Bd hs) (k : Nat) : -1000000 ≤ Tp.gr (hs.take k) ∧ Tp.gr (hs.take k) ≤ 1000000 := by
  have key : ∀ l : List Tp.H, (∀ x ∈ l, x.old.length ≤ 1000 ∧ x.new.length ≤ 1000) → -(1000 * l.length : Int) ≤ Tp.gr l ∧ Tp.gr l ≤ 1000 * l.length := by
    intro l
    induction l with
    | nil => intro _; simp [Tp.gr]
    | cons x r ih =>
      intro hx
      have h1 := hx x (List.mem_cons_self ..)
      have h2 := ih (fun y hy => hx y (List.mem_cons_of_mem _ hy))
      simp only [Tp.gr, List.length_cons]
      omega
  have h1 := key (hs.take k) (fun x hx => (h.each x (List.mem_of_mem_take hx)).2.2)
  have h2 := h.len
  rw [List.length_take] at h1
  omega
theorem bc_iv {hs : List Tp.H} (h : Bd hs) : Bc (Tp.cg (Tp.iv 0 hs)) := by
  refine ⟨by unfold Tp.cg; rw [List.length_map, Tp.iv_len]; exact h.len, fun c hc => ?_⟩
  obtain ⟨x, hx, rfl⟩ := List.mem_map.1 hc
  obtain ⟨k, hk, rfl⟩ := List.mem_iff_getElem.1 hx
  have hk' : k < hs.length := by rwa [Tp.iv_len] at hk
  rw [Tp.iv_get hs 0 k hk' hk]
  have h1 := h.each _ (List.getElem_mem hk')
  have h2 := gr_bd h k
  unfold Tp.chg Tp.en
  dsimp only
  omega
theorem gb_bd {cs : List Tp.Cg} (h : Bc cs) (a : Int) (k : Nat) : -1000000 ≤ Tp.gb a (cs.take k) ∧ Tp.gb a (cs.take k) ≤ 1000000 := by
  have key : ∀ l : List Tp.Cg, (∀ x ∈ l, -1000 ≤ x.gr ∧ x.gr ≤ 1000) → -(1000 * l.length : Int) ≤ Tp.gb a l ∧ Tp.gb a l ≤ 1000 * l.length := by
    intro l
    induction l with
    | nil => intro _; simp [Tp.gb]
    | cons x r ih =>
      intro hx
      have h1 := hx x (List.mem_cons_self ..)
      have h2 := ih (fun y hy => hx y (List.mem_cons_of_mem _ hy))
      simp only [Tp.gb, List.length_cons]
      split <;> omega
  have h1 := key (cs.take k) (fun x hx => (h.each x (List.mem_of_mem_take hx)).2.2.2.2)
  have h2 := h.len
  rw [List.length_take] at h1
  omega
theorem gb_next (a : Int) (cs : List Tp.Cg) (k : Nat) (h : k < cs.length) : Tp.gb a (cs.take (k + 1)) = Tp.gb a (cs.take k) + (if cs[k].to < a then cs[k].gr else 0) := by
  rw [List.take_succ_eq_append_getElem h]
  generalize cs[k] = c
  generalize cs.take k = l
  induction l with
  | nil => simp [Tp.gb]
  | cons x r ih => simp only [List.cons_append, Tp.gb, ih]; omega

/-- a slice of changes is returned -/
def CgPost (cs : List Tp.Cg) (w : World) (e : Ending) (w' : World) : Prop :=
  ∃ v, e = .returned v ∧ OwnE chE w.heap.size w' v cs ∧ Below w.heap.size w w'

set_option maxRecDepth 100000 in
set_option maxHeartbeats 4000000 in
theorem changesOf_any (p : Option Addr) (hs : List Tp.H) (n cap : Nat) (w : World) (hn : n = hs.length) (hp : Ptc w p hs) (hb : Bd hs) :
    Calls Try.prog 62 #[.agg #[.slice p n cap]] w (CgPost (Tp.cg hs) w) := by
  subst hn
  have HP := Lib.hid hp
  have HB := Lib.hid hb
  have hl := hb.len
  have O1 := One.new w (.slice p hs.length cap) 41 w.heap.size rfl
  have B1 := Lib.hid (up_alloc (Below.refl w.heap.size w) (.cells #[.slice p hs.length cap] 41 (0, 0)))
  have oc := O1.c
  clear hp hb O1
  go_enter Try.func62, Try.ntmps62
  go_wp2_with fail
  go_loopw [3, 9] (fun v i wr => ∃ k : Nat, k ≤ hs.length ∧ i = .int .i64 k ∧ Hid (OwnE chE w.heap.size wr v (Tp.cg (hs.take k))) ∧ Hid (Below w.heap.size w wr)) (fun _ i _ => hs.length - (intOf i).toNat)
  case atStart => exact ⟨0, Nat.zero_le _, rfl, Lib.hid (ownE_nil _ _ _), B1⟩
  case round =>
    obtain ⟨k, hk, rfl, own, hB⟩ := hrel
    have b0 : (0 : Int) ≤ (k : Int) := by omega
    by_cases hlt : k < hs.length
    · have g1 : decide (k < hs.length) = true := by simpa using hlt
      have b1 : (k : Int) < (hs.length : Int) := by omega
      obtain ⟨b, off, rfl, hbb0, ⟨o1, o2, o3⟩, ⟨n1, n2, n3⟩, c0, c1, c2, r1, r2⟩ := HP.out.cell hlt
      replace c0 := (hB.out.cell (p := ⟨b, off + k * 3, none⟩) hbb0).trans c0
      replace c1 := (hB.out.cell (p := ⟨b, off + k * 3 + 1, none⟩) hbb0).trans c1
      replace c2 := (hB.out.cell (p := ⟨b, off + k * 3 + 2, none⟩) hbb0).trans c2
      obtain ⟨z0, z1, z2, z3⟩ := HB.out.each _ (List.getElem_mem hlt)
      have l1 := r1.len
      have l2 := r2.len
      dsimp only at l1 l2
      subst l1 l2
      simp only [sv] at c1 c2
      have NX : Hid (Tp.cg (hs.take (k + 1)) = Tp.cg (hs.take k) ++ [Tp.chg hs[k]]) := Lib.hid (by unfold Tp.cg; rw [List.take_succ_eq_append_getElem hlt, List.map_append]; rfl)
      have hkl : (Tp.cg (hs.take k)).length = k := by unfold Tp.cg; rw [List.length_map, List.length_take]; omega
      have HKL := Lib.hid hkl
      have HLT := Lib.hid hlt
      obtain ⟨⟨z, ol, nl⟩, hx⟩ : ∃ x, x = hs[k]'hlt := ⟨_, rfl⟩
      rw [← hx] at c0 c1 c2 z0 z1 z2 z3 NX
      dsimp only at c0 c1 c2 z0 z1 z2 z3
      have U2 := Hu.new wr z (.slice o1 ol.length o3) (.slice n1 nl.length n3) 81
      have B2 := Lib.hid (up_alloc hB.out (.cells #[.int .i64 z, .slice o1 ol.length o3, .slice n1 nl.length n3] 81 (0, 0)))
      have W2 := Lib.hid (own.out.alloc (.cells #[.int .i64 z, .slice o1 ol.length o3, .slice n1 nl.length n3] 81 (0, 0)))
      obtain ⟨y0, y1, y2, y3⟩ := U2
      clear hx r1 r2 hkl
      go_wp2_with fail
      refine (changeOf_any z o1 n1 ol.length o3 nl.length n3 _ z0 z1 (by omega) (by omega)).mono ?_
      rintro e w3 ⟨rfl, hb3⟩
      have B3 := Lib.hid (up_call B2.out hb3)
      have W3 := Lib.hid (W2.out.up hb3)
      have hz3 := B3.out.size
      clear hb3 y0 y1 y2 y3
      go_wp2_with (at_builtin; refine wp_appE chE rfl (.tmp 13) (.tmp 16) rfl w.heap.size _ (Tp.cg (hs.take k)) (Tp.chg ⟨z, ol, nl⟩) _ _ rfl (W3.out.alloc _) rfl (ch_one _ _ (by first | rfl | simp) (Tp.chg ⟨z, ol, nl⟩) _ _ _ rfl rfl rfl _) (by rw [HKL.out]; simp [chE]; omega) (by rw [HKL.out]; omega) (by simp; omega) ?_; intro v2 w4 own4 bel4)
      go_roundw
      case rel => exact ⟨k + 1, HLT.out, by go_num, Lib.hid (by rw [NX.out]; exact own4), Lib.hid (up_own (up_alloc B3.out _) bel4)⟩
      case measure => first | (simp [intOf]; done) | (simp [intOf]; omega)
    · have g1 : decide (k < hs.length) = false := by simpa using hlt
      obtain rfl : k = hs.length := by omega
      have R : Hid (OwnE chE w.heap.size wr _ (Tp.cg hs)) := Lib.hid (by have := own.out; rwa [List.take_length] at this)
      go_wp2_with fail
      go_ret
      exact ⟨_, rfl, R.out, hB.out⟩

set_option maxRecDepth 100000 in
set_option maxHeartbeats 4000000 in
theorem growthBefore_any (a : Int) (p : Option Addr) (cs : List Tp.Cg) (n cap : Nat) (w : World) (hn : n = cs.length) (hp : Row chE w p cs) (hb : Bc cs) :
    Calls Try.prog 98 #[.int .i64 a, .slice p n cap] w (BPost (.int .i64 (Tp.gb a cs)) w) := by
  subst hn
  have HP := Lib.hid hp
  have HB := Lib.hid hb
  have hl := hb.len
  clear hp hb
  go_enter Try.func98, Try.ntmps98
  go_wp2_with fail
  go_loopw [5, 10] (fun g i wr => ∃ k : Nat, k ≤ cs.length ∧ i = .int .i64 k ∧ g = .int .i64 (Tp.gb a (cs.take k)) ∧ Hid (Below w.heap.size w wr)) (fun _ i _ => cs.length - (intOf i).toNat)
  case atStart => exact ⟨0, Nat.zero_le _, rfl, rfl, Lib.hid (Below.refl _ _)⟩
  case round =>
    obtain ⟨k, hk, rfl, rfl, hB⟩ := hrel
    have b0 : (0 : Int) ≤ (k : Int) := by omega
    by_cases hlt : k < cs.length
    · have g1 : decide (k < cs.length) = true := by simpa using hlt
      have b1 : (k : Int) < (cs.length : Int) := by omega
      obtain ⟨b, off, rfl, hbb0, c0, c1, c2⟩ := chE_cell HP.out hlt
      replace c0 := (hB.out.cell (p := ⟨b, off + k * 3, none⟩) hbb0).trans c0
      replace c1 := (hB.out.cell (p := ⟨b, off + k * 3 + 1, none⟩) hbb0).trans c1
      replace c2 := (hB.out.cell (p := ⟨b, off + k * 3 + 2, none⟩) hbb0).trans c2
      have NX := Lib.hid (gb_next a cs k hlt)
      have gk := gb_bd HB.out a k
      obtain ⟨-, -, -, -, z4, z5⟩ := HB.out.each _ (List.getElem_mem hlt)
      have HLT := Lib.hid hlt
      obtain ⟨⟨x, y, z⟩, hx⟩ : ∃ x, x = cs[k]'hlt := ⟨_, rfl⟩
      obtain ⟨G, hG⟩ : ∃ g, g = Tp.gb a (cs.take k) := ⟨_, rfl⟩
      rw [← hx] at c0 c1 c2 z4 z5 NX
      rw [← hG] at NX gk ⊢
      dsimp only at c0 c1 c2 z4 z5 NX
      have U2 := Cc.new wr x y z 117 wr.heap.size rfl
      have B2 := Lib.hid (up_alloc hB.out (.cells #[.int .i64 x, .int .i64 y, .int .i64 z] 117 (0, 0)))
      obtain ⟨y0, y1, y2, y3, y4, y5, y6⟩ := U2
      have wz : IntKind.i64.wrap (G + z) = G + z := IntWalk.i64_in _ (by omega)
      clear hx hG
      by_cases hy : y < a
      · have g2 : decide (y < a) = true := by simpa using hy
        have N2 := Lib.hid (NX.out.trans (by rw [if_pos hy] : _ = G + z))
        clear hy NX
        go_wp2_with fail
        go_roundw
        case rel => exact ⟨k + 1, HLT.out, by go_num, by rw [N2.out], B2⟩
        case measure => first | (simp [intOf]; done) | (simp [intOf]; omega)
      · have g2 : decide (y < a) = false := by simpa using hy
        have N2 := Lib.hid (NX.out.trans (by rw [if_neg hy, Int.add_zero] : _ = G))
        clear hy NX
        go_wp2_with fail
        go_roundw
        case rel => exact ⟨k + 1, HLT.out, by go_num, by rw [N2.out], B2⟩
        case measure => first | (simp [intOf]; done) | (simp [intOf]; omega)
    · have g1 : decide (k < cs.length) = false := by simpa using hlt
      obtain rfl : k = cs.length := by omega
      have R : Hid (Tp.gb a (cs.take cs.length) = Tp.gb a cs) := Lib.hid (by rw [List.take_length])
      go_wp2_with fail
      go_ret
      exact ⟨by first | rfl | (rw [R.out]; done) | (rw [R.out]; rfl), hB.out⟩

set_option maxRecDepth 100000 in
set_option maxHeartbeats 4000000 in
theorem undoingsOf_any (p : Option Addr) (hs : List Tp.H) (n cap : Nat) (w : World) (hn : n = hs.length) (hp : Ptc w p hs) (hb : Bd hs) :
    Calls Try.prog 82 #[.agg #[.slice p n cap]] w (CgPost (Tp.cg (Tp.iv 0 hs)) w) := by
  subst hn
  have HP := Lib.hid hp
  have HB := Lib.hid hb
  have hl := hb.len
  have O1 := One.new w (.slice p hs.length cap) 41 w.heap.size rfl
  have B1 := Lib.hid (up_alloc (Below.refl w.heap.size w) (.cells #[.slice p hs.length cap] 41 (0, 0)))
  have oc := O1.c
  clear hp hb O1
  go_enter Try.func82, Try.ntmps82
  go_wp2_with fail
  refine (changesOf_any p hs _ cap _ rfl (HP.out.mono B1.out) HB.out).mono ?_
  rintro e w1 ⟨v1, rfl, own1, hb1⟩
  obtain ⟨q, cq, rfl, hq, -, -, -⟩ := row_of_own own1
  have HQ := Lib.hid hq
  have hcl : (Tp.cg hs).length = hs.length := by unfold Tp.cg; rw [List.length_map]
  have U1 := Lib.hid (up_call B1.out hb1)
  rw [hcl]
  clear own1 hq hb1 oc
  go_wp2_with fail
  go_loopw [3, 4, 11] (fun v g i wr => ∃ k : Nat, k ≤ hs.length ∧ i = .int .i64 k ∧ g = .int .i64 (Tp.gr (hs.take k)) ∧ Hid (OwnE chE w1.heap.size wr v (Tp.cg ((Tp.iv 0 hs).take k))) ∧ Hid (Below w1.heap.size w1 wr)) (fun _ _ i _ => hs.length - (intOf i).toNat)
  case atStart => exact ⟨0, Nat.zero_le _, rfl, rfl, Lib.hid (ownE_nil _ _ _), Lib.hid (Below.refl _ _)⟩
  case round =>
    obtain ⟨k, hk, rfl, rfl, own, hB⟩ := hrel
    have b0 : (0 : Int) ≤ (k : Int) := by omega
    by_cases hlt : k < hs.length
    · have g1 : decide (k < hs.length) = true := by simpa using hlt
      have b1 : (k : Int) < (hs.length : Int) := by omega
      obtain ⟨b, off, rfl, hbb0, c0, c1, c2⟩ := chE_cell HQ.out (i := k) (by rw [hcl]; exact hlt)
      have ek : (Tp.cg hs)[k]'(by rw [hcl]; exact hlt) = Tp.chg hs[k] := by simp [Tp.cg]
      rw [ek] at c0 c1 c2
      replace c0 := (hB.out.cell (p := ⟨b, off + k * 3, none⟩) hbb0).trans c0
      replace c1 := (hB.out.cell (p := ⟨b, off + k * 3 + 1, none⟩) hbb0).trans c1
      replace c2 := (hB.out.cell (p := ⟨b, off + k * 3 + 2, none⟩) hbb0).trans c2
      obtain ⟨z0, z1, z2, z3⟩ := HB.out.each _ (List.getElem_mem hlt)
      have gn := Lib.hid (Tp.gr_next hs k hlt)
      have een : Tp.en (hs[k]'hlt) = (hs[k]'hlt).at' + (hs[k]'hlt).old.length := rfl
      have gk := gr_bd HB.out k
      have hk' : k < (Tp.iv 0 hs).length := by rw [Tp.iv_len]; exact hlt
      have NX : Hid (Tp.cg ((Tp.iv 0 hs).take (k + 1)) = Tp.cg ((Tp.iv 0 hs).take k) ++ [⟨hs[k].at' + Tp.gr (hs.take k), Tp.en hs[k] + (Tp.gr (hs.take k) + ((hs[k].new.length : Int) - hs[k].old.length)), -((hs[k].new.length : Int) - hs[k].old.length)⟩]) := Lib.hid (by
        unfold Tp.cg
        rw [List.take_succ_eq_append_getElem hk', List.map_append, Tp.iv_get hs 0 k hlt hk']
        congr 1
        simp only [List.map_cons, List.map_nil, Tp.chg, Tp.en, List.cons.injEq, Tp.Cg.mk.injEq, and_true]
        omega)
      have hkl : (Tp.cg ((Tp.iv 0 hs).take k)).length = k := by unfold Tp.cg; rw [List.length_map, List.length_take]; omega
      have HKL := Lib.hid hkl
      have HLT := Lib.hid hlt
      obtain ⟨⟨z, ol, nl⟩, hx⟩ : ∃ x, x = hs[k]'hlt := ⟨_, rfl⟩
      obtain ⟨G, hG⟩ : ∃ g, g = Tp.gr (hs.take k) := ⟨_, rfl⟩
      rw [← hx] at c0 c1 c2 z0 z1 z2 z3 NX gn een
      rw [← hG] at NX gn gk ⊢
      obtain ⟨E, hE⟩ : ∃ e, e = Tp.en (⟨z, ol, nl⟩ : Tp.H) := ⟨_, rfl⟩
      simp only [Tp.chg] at c0 c1 c2
      rw [← hE] at c1 NX een
      dsimp only at z0 z1 z2 z3 NX gn een
      obtain ⟨D, hD⟩ : ∃ d : Int, d = (nl.length : Int) - (ol.length : Int) := ⟨_, rfl⟩
      rw [← hD] at c2 NX gn
      have U2 := Cc.new wr z E D 117 wr.heap.size rfl
      have B2 := Lib.hid (up_alloc hB.out (.cells #[.int .i64 z, .int .i64 E, .int .i64 D] 117 (0, 0)))
      have W2 := Lib.hid (own.out.alloc (.cells #[.int .i64 z, .int .i64 E, .int .i64 D] 117 (0, 0)))
      obtain ⟨y0, y1, y2, y3, y4, y5, y6⟩ := U2
      have w1' : IntKind.i64.wrap (z + G) = z + G := IntWalk.i64_in _ (by omega)
      have w2' : IntKind.i64.wrap (G + D) = G + D := IntWalk.i64_in _ (by omega)
      have w3' : IntKind.i64.wrap (E + (G + D)) = E + (G + D) := IntWalk.i64_in _ (by omega)
      have w4' : IntKind.i64.wrap (-D) = -D := IntWalk.i64_in _ (by omega)
      have hz3 := hB.out.size
      clear hx hG hE hD ek hkl hk' een
      go_wp2_with (at_builtin; refine wp_appE chE rfl (.tmp 23) (.tmp 33) rfl w1.heap.size _ (Tp.cg ((Tp.iv 0 hs).take k)) ⟨z + G, E + (G + D), -D⟩ _ _ rfl (W2.out.alloc _) rfl (ch_one _ _ (by first | rfl | simp) ⟨z + G, E + (G + D), -D⟩ _ _ _ rfl rfl rfl _) (by rw [HKL.out]; simp [chE]; omega) (by rw [HKL.out]; omega) (by simp; omega) ?_; intro v2 w4 own4 bel4)
      go_roundw
      case rel => exact ⟨k + 1, HLT.out, by go_num, by rw [gn.out], Lib.hid (by rw [NX.out]; exact own4), Lib.hid (up_own (up_alloc B2.out _) bel4)⟩
      case measure => first | (simp [intOf]; done) | (simp [intOf]; omega)
    · have g1 : decide (k < hs.length) = false := by simpa using hlt
      obtain rfl : k = hs.length := by omega
      have R : Hid (OwnE chE w1.heap.size wr _ (Tp.cg (Tp.iv 0 hs))) := Lib.hid (by have := own.out; rwa [List.take_of_length_le (by rw [Tp.iv_len]; omega)] at this)
      go_wp2_with fail
      go_ret
      exact ⟨_, rfl, R.out.le U1.out.size, up_call U1.out hB.out⟩
end Go.Proofs.Ytbgnckbgpiajjaa
namespace Go.Proofs.Ytbgnckbgpiajjaa
open Go.RowKit

theorem any_take {α : Type} {l : List α} {P : α → Bool} {k : Nat} (h : k < l.length) (ht : (l.take k).any P = false) : (l.take (k + 1)).any P = P l[k] := by
  rw [List.take_succ_eq_append_getElem h, List.any_append, ht, Bool.false_or, List.any_cons, List.any_nil, Bool.or_false]
theorem any_found {α : Type} {l : List α} {P : α → Bool} {k : Nat} (h : k < l.length) (hp : P l[k] = true) : l.any P = true := List.any_eq_true.2 ⟨l[k], List.getElem_mem h, hp⟩
/-- an index, or less than 0 -/
def IxPost (b : Bool) (w : World) (e : Ending) (w' : World) : Prop := ∃ i : Int, e = .returned (.int .i64 i) ∧ decide (0 ≤ i) = b ∧ Below w.heap.size w w'

set_option maxHeartbeats 2000000 in
theorem idxC_any (f : FuncId) (caps : Array Value) (P : Tp.Cg → Bool) (p : Option Addr) (cs : List Tp.Cg) (n cap : Nat) (w : World) (hn : n = cs.length) (hp : Row chE w p cs) (hl : cs.length ≤ 1000) (ef : Enters Try.prog f)
    (H : ∀ c ∈ cs, ∀ W, Below w.heap.size w W → Calls Try.prog f (#[.agg #[.int .i64 c.fr, .int .i64 c.to, .int .i64 c.gr]] ++ caps) W (BPost (.bool (P c)) W)) :
    Calls Try.prog 112 #[.slice p n cap, .func (.func f) #[] caps] w (IxPost (cs.any P) w) := by
  subst hn
  have HP := Lib.hid hp
  have HH := Lib.hid H
  have ef' : ∀ (args : Array Value) (w : World), (callFunc f args).run Try.prog w = .ok (.enter f args) w := ef
  clear hp H ef
  go_enter Try.func112, Try.ntmps112
  go_wp2_with fail
  go_loopw [8] (fun i wr => ∃ k : Nat, k ≤ cs.length ∧ i = .int .i64 k ∧ Hid ((cs.take k).any P = false) ∧ Hid (Below w.heap.size w wr)) (fun i _ => cs.length - (intOf i).toNat)
  case atStart => exact ⟨0, Nat.zero_le _, rfl, Lib.hid rfl, Lib.hid (Below.refl _ _)⟩
  case round =>
    obtain ⟨k, hk, rfl, hA, hB⟩ := hrel
    have b0 : (0 : Int) ≤ (k : Int) := by omega
    by_cases hlt : k < cs.length
    · have g1 : decide (k < cs.length) = true := by simpa using hlt
      have b1 : (k : Int) < (cs.length : Int) := by omega
      obtain ⟨b, off, rfl, hbb0, c0, c1, c2⟩ := chE_cell HP.out hlt
      replace c0 := (hB.out.cell (p := ⟨b, off + k * 3, none⟩) hbb0).trans c0
      replace c1 := (hB.out.cell (p := ⟨b, off + k * 3 + 1, none⟩) hbb0).trans c1
      replace c2 := (hB.out.cell (p := ⟨b, off + k * 3 + 2, none⟩) hbb0).trans c2
      have ST := Lib.hid (HH.out _ (List.getElem_mem hlt) wr hB.out)
      have N1 := Lib.hid (any_take hlt hA.out)
      have N2 := Lib.hid (any_found (P := P) hlt)
      have HLT := Lib.hid hlt
      obtain ⟨⟨x, y, z⟩, hx⟩ : ∃ x, x = cs[k]'hlt := ⟨_, rfl⟩
      rw [← hx] at c0 c1 c2 ST N1 N2
      dsimp only at c0 c1 c2 ST
      clear hx
      cases hP : P ⟨x, y, z⟩
      · rw [hP] at ST N1
        clear hP N2
        go_wp2_with fail
        refine ST.out.mono ?_
        rintro e w2 ⟨rfl, hb2⟩
        have B2 := Lib.hid (up_call hB.out hb2)
        clear hb2
        go_wp2_with fail
        go_roundw
        case rel => exact ⟨k + 1, HLT.out, by go_num, N1, B2⟩
        case measure => first | (simp [intOf]; done) | (simp [intOf]; omega)
      · rw [hP] at ST
        have N3 := Lib.hid (N2.out hP)
        clear hP N1 N2
        go_wp2_with fail
        refine ST.out.mono ?_
        rintro e w2 ⟨rfl, hb2⟩
        have B2 := Lib.hid (up_call hB.out hb2)
        clear hb2
        go_wp2_with fail
        go_ret
        exact ⟨(k : Int), rfl, by rw [N3.out]; simp, B2.out⟩
    · have g1 : decide (k < cs.length) = false := by simpa using hlt
      obtain rfl : k = cs.length := by omega
      have R : Hid (cs.any P = false) := Lib.hid (by have := hA.out; rwa [List.take_length] at this)
      go_wp2_with fail
      go_ret
      exact ⟨-1, rfl, by rw [R.out]; rfl, hB.out⟩

theorem hasC_any (f : FuncId) (caps : Array Value) (P : Tp.Cg → Bool) (p : Option Addr) (cs : List Tp.Cg) (n cap : Nat) (w : World) (hn : n = cs.length) (hp : Row chE w p cs) (hl : cs.length ≤ 1000) (ef : Enters Try.prog f)
    (H : ∀ c ∈ cs, ∀ W, Below w.heap.size w W → Calls Try.prog f (#[.agg #[.int .i64 c.fr, .int .i64 c.to, .int .i64 c.gr]] ++ caps) W (BPost (.bool (P c)) W)) :
    Calls Try.prog 96 #[.slice p n cap, .func (.func f) #[] caps] w (BPost (.bool (cs.any P)) w) := by
  subst hn
  have C := Lib.hid (idxC_any f caps P p cs _ cap w rfl hp hl ef H)
  clear hp H ef
  go_enter Try.func96, Try.ntmps96
  go_wp2_with fail
  refine C.out.mono ?_
  rintro e w2 ⟨i, rfl, hi, hb2⟩
  go_wp2_with fail
  go_ret
  exact ⟨by first | rfl | (rw [← hi]; rfl), hb2⟩

set_option maxHeartbeats 2000000 in
theorem idxH_any (f : FuncId) (caps : Array Value) (P : Tp.H → Bool) (p : Option Addr) (hs : List Tp.H) (n cap : Nat) (w : World) (hn : n = hs.length) (hp : Ptc w p hs) (hl : hs.length ≤ 1000) (ef : Enters Try.prog f)
    (H : ∀ h ∈ hs, ∀ (o1 n1 : Option Addr) (o3 n3 : Nat) W, Below w.heap.size w W → Calls Try.prog f (#[.agg #[.int .i64 h.at', .slice o1 h.old.length o3, .slice n1 h.new.length n3]] ++ caps) W (BPost (.bool (P h)) W)) :
    Calls Try.prog 111 #[.slice p n cap, .func (.func f) #[] caps] w (IxPost (hs.any P) w) := by
  subst hn
  have HP := Lib.hid hp
  have HH := Lib.hid H
  have ef' : ∀ (args : Array Value) (w : World), (callFunc f args).run Try.prog w = .ok (.enter f args) w := ef
  clear hp H ef
  go_enter Try.func111, Try.ntmps111
  go_wp2_with fail
  go_loopw [8] (fun i wr => ∃ k : Nat, k ≤ hs.length ∧ i = .int .i64 k ∧ Hid ((hs.take k).any P = false) ∧ Hid (Below w.heap.size w wr)) (fun i _ => hs.length - (intOf i).toNat)
  case atStart => exact ⟨0, Nat.zero_le _, rfl, Lib.hid rfl, Lib.hid (Below.refl _ _)⟩
  case round =>
    obtain ⟨k, hk, rfl, hA, hB⟩ := hrel
    have b0 : (0 : Int) ≤ (k : Int) := by omega
    by_cases hlt : k < hs.length
    · have g1 : decide (k < hs.length) = true := by simpa using hlt
      have b1 : (k : Int) < (hs.length : Int) := by omega
      obtain ⟨b, off, rfl, hbb0, ⟨o1, o2, o3⟩, ⟨n1, n2, n3⟩, c0, c1, c2, r1, r2⟩ := HP.out.cell hlt
      replace c0 := (hB.out.cell (p := ⟨b, off + k * 3, none⟩) hbb0).trans c0
      replace c1 := (hB.out.cell (p := ⟨b, off + k * 3 + 1, none⟩) hbb0).trans c1
      replace c2 := (hB.out.cell (p := ⟨b, off + k * 3 + 2, none⟩) hbb0).trans c2
      have l1 := r1.len
      have l2 := r2.len
      dsimp only at l1 l2
      subst l1 l2
      simp only [sv] at c1 c2
      have ST := Lib.hid (HH.out _ (List.getElem_mem hlt) o1 n1 o3 n3 wr hB.out)
      have N1 := Lib.hid (any_take hlt hA.out)
      have N2 := Lib.hid (any_found (P := P) hlt)
      have HLT := Lib.hid hlt
      obtain ⟨⟨z, ol, nl⟩, hx⟩ : ∃ x, x = hs[k]'hlt := ⟨_, rfl⟩
      rw [← hx] at c0 c1 c2 ST N1 N2
      dsimp only at c0 c1 c2 ST
      clear hx r1 r2
      cases hP : P ⟨z, ol, nl⟩
      · rw [hP] at ST N1
        clear hP N2
        go_wp2_with fail
        refine ST.out.mono ?_
        rintro e w2 ⟨rfl, hb2⟩
        have B2 := Lib.hid (up_call hB.out hb2)
        clear hb2
        go_wp2_with fail
        go_roundw
        case rel => exact ⟨k + 1, HLT.out, by go_num, N1, B2⟩
        case measure => first | (simp [intOf]; done) | (simp [intOf]; omega)
      · rw [hP] at ST
        have N3 := Lib.hid (N2.out hP)
        clear hP N1 N2
        go_wp2_with fail
        refine ST.out.mono ?_
        rintro e w2 ⟨rfl, hb2⟩
        have B2 := Lib.hid (up_call hB.out hb2)
        clear hb2
        go_wp2_with fail
        go_ret
        exact ⟨(k : Int), rfl, by rw [N3.out]; simp, B2.out⟩
    · have g1 : decide (k < hs.length) = false := by simpa using hlt
      obtain rfl : k = hs.length := by omega
      have R : Hid (hs.any P = false) := Lib.hid (by have := hA.out; rwa [List.take_length] at this)
      go_wp2_with fail
      go_ret
      exact ⟨-1, rfl, by rw [R.out]; rfl, hB.out⟩

theorem hasH_any (f : FuncId) (caps : Array Value) (P : Tp.H → Bool) (p : Option Addr) (hs : List Tp.H) (n cap : Nat) (w : World) (hn : n = hs.length) (hp : Ptc w p hs) (hl : hs.length ≤ 1000) (ef : Enters Try.prog f)
    (H : ∀ h ∈ hs, ∀ (o1 n1 : Option Addr) (o3 n3 : Nat) W, Below w.heap.size w W → Calls Try.prog f (#[.agg #[.int .i64 h.at', .slice o1 h.old.length o3, .slice n1 h.new.length n3]] ++ caps) W (BPost (.bool (P h)) W)) :
    Calls Try.prog 94 #[.slice p n cap, .func (.func f) #[] caps] w (BPost (.bool (hs.any P)) w) := by
  subst hn
  have C := Lib.hid (idxH_any f caps P p hs _ cap w rfl hp hl ef H)
  clear hp H ef
  go_enter Try.func94, Try.ntmps94
  go_wp2_with fail
  refine C.out.mono ?_
  rintro e w2 ⟨i, rfl, hi, hb2⟩
  go_wp2_with fail
  go_ret
  exact ⟨by first | rfl | (rw [← hi]; rfl), hb2⟩

set_option maxHeartbeats 1000000 in
theorem touch1_any (g : Nat) (h : Tp.H) (c : Tp.Cg) (w : World) (a b d : Int) (ha : a = h.at') (hb : b = Tp.en h) (hc : Cc w g a b d) :
    Calls Try.prog 97 (#[.agg #[.int .i64 c.fr, .int .i64 c.to, .int .i64 c.gr]] ++ #[.pointer (some ⟨g, 0, none⟩)]) w (BPost (.bool (Tp.t1 h c)) w) := by
  subst ha hb
  have U0 := Cc.new w c.fr c.to c.gr 117 w.heap.size rfl
  have C0 := hc.up (up_alloc (Below.refl _ _) (.cells #[.int .i64 c.fr, .int .i64 c.to, .int .i64 c.gr] 117 (0, 0)))
  obtain ⟨y0, y1, y2, y3, y4, y5, y6⟩ := U0
  obtain ⟨x0, x1, x2, x3, x4, x5, x6⟩ := C0
  have E : Hid (Tp.t1 h c = (decide (h.at' ≤ c.to) && decide (c.fr ≤ Tp.en h))) := Lib.hid rfl
  show Calls Try.prog 97 #[.agg #[.int .i64 c.fr, .int .i64 c.to, .int .i64 c.gr], .pointer (some ⟨g, 0, none⟩)] w _
  by_cases h1 : h.at' ≤ c.to
  · have g1 : decide (h.at' ≤ c.to) = true := by simpa using h1
    go_enter Try.func97, Try.ntmps97
    go_wp2_with fail
    go_ret
    refine ⟨by rw [E.out, g1, Bool.true_and]; rfl, ?_⟩
    (repeat' (first | (with_reducible exact Below.refl _ _) | (with_reducible assumption) | (with_reducible refine below_drewN ?_ _) | (with_reducible refine Below.setCell ?_ ?_ _) | (with_reducible refine Below.alloc ?_ ?_ _) | (with_reducible refine Below.drew ?_) | go_size))
  · have g1 : decide (h.at' ≤ c.to) = false := by simpa using h1
    go_enter Try.func97, Try.ntmps97
    go_wp2_with fail
    go_ret
    refine ⟨by rw [E.out, g1, Bool.false_and]; rfl, ?_⟩
    (repeat' (first | (with_reducible exact Below.refl _ _) | (with_reducible assumption) | (with_reducible refine below_drewN ?_ _) | (with_reducible refine Below.setCell ?_ ?_ _) | (with_reducible refine Below.alloc ?_ ?_ _) | (with_reducible refine Below.drew ?_) | go_size))

set_option maxHeartbeats 1000000 in
theorem touch_any (gc : Nat) (p : Option Addr) (cs : List Tp.Cg) (cap : Nat) (h : Tp.H) (o1 n1 : Option Addr) (o3 n3 : Nat) (w : World) (hc : w.cell? ⟨gc, 0, none⟩ = some (.slice p cs.length cap)) (hp : Row chE w p cs) (hl : cs.length ≤ 1000)
    (h1 : -1000000 ≤ h.at') (h2 : h.at' ≤ 1000000) (h3 : h.old.length ≤ 1000) (h4 : h.new.length ≤ 1000) :
    Calls Try.prog 95 (#[.agg #[.int .i64 h.at', .slice o1 h.old.length o3, .slice n1 h.new.length n3]] ++ #[.pointer (some ⟨gc, 0, none⟩)]) w (BPost (.bool (cs.any (Tp.t1 h))) w) := by
  show Calls Try.prog 95 #[.agg #[.int .i64 h.at', .slice o1 h.old.length o3, .slice n1 h.new.length n3], .pointer (some ⟨gc, 0, none⟩)] w _
  have hgc := cell_block_lt hc
  have U0 := Hu.new w h.at' (.slice o1 h.old.length o3) (.slice n1 h.new.length n3) 81
  have B0 := Lib.hid (up_alloc (Below.refl w.heap.size w) (.cells #[.int .i64 h.at', .slice o1 h.old.length o3, .slice n1 h.new.length n3] 81 (0, 0)))
  have HC := Lib.hid hc
  have HP := Lib.hid hp
  obtain ⟨y0, y1, y2, y3⟩ := U0
  clear hc hp
  go_enter Try.func95, Try.ntmps95
  go_wp2_with fail
  refine (changeOf_any h.at' o1 n1 h.old.length o3 h.new.length n3 _ h1 h2 (by omega) (by omega)).mono ?_
  rintro e w1 ⟨rfl, hb1⟩
  have B1 := Lib.hid (up_call B0.out hb1)
  have B2 := Lib.hid (up_alloc B1.out (.cells #[.int .i64 h.at', .int .i64 (h.at' + (h.old.length : Int)), .int .i64 ((h.new.length : Int) - (h.old.length : Int))] 117 (0, 0)))
  have C2 := Lib.hid (Cc.new w1 h.at' (h.at' + (h.old.length : Int)) ((h.new.length : Int) - (h.old.length : Int)) 117 w1.heap.size rfl)
  have c2 := (B2.out.cell (p := ⟨gc, 0, none⟩) hgc).trans HC.out
  have CL := Lib.hid (hasC_any 97 #[.pointer (some ⟨w1.heap.size, 0, none⟩)] (Tp.t1 h) p cs cs.length cap _ rfl (HP.out.mono B2.out) hl (enters_of Try.func97 (by kernel_rfl) rfl)
    (fun c _ W hW => touch1_any w1.heap.size h c W _ _ _ rfl rfl (C2.out.up hW)))
  clear hb1 y0 y1 y2 y3
  go_wp2_with fail
  refine CL.out.mono ?_
  rintro e w3 ⟨rfl, hb3⟩
  go_wp2_with fail
  go_ret
  exact ⟨rfl, up_call B2.out hb3⟩

set_option maxHeartbeats 1000000 in
theorem touches_any (p q : Option Addr) (hs : List Tp.H) (cs : List Tp.Cg) (n cap m cap' : Nat) (w : World) (hn : n = hs.length) (hm : m = cs.length) (hp : Ptc w p hs) (hb : Bd hs) (hq : Row chE w q cs) (hl : cs.length ≤ 1000) :
    Calls Try.prog 63 #[.agg #[.slice p n cap], .slice q m cap'] w (BPost (.bool (Tp.tch hs cs)) w) := by
  subst hn hm
  have B0 := Lib.hid (up_alloc (up_alloc (Below.refl w.heap.size w) (.cells #[.slice p hs.length cap] 41 (0, 0))) (.cells #[.slice q cs.length cap'] 85 (0, 0)))
  have O0 := (One.new w (.slice p hs.length cap) 41 w.heap.size rfl).alloc (.cells #[.slice q cs.length cap'] 85 (0, 0))
  have C0 := Lib.hid (One.new (w.alloc (.cells #[.slice p hs.length cap] 41 (0, 0))) (.slice q cs.length cap') 85 (w.heap.size + 1) (by simp))
  have oc := O0.c
  have HP := Lib.hid (hp.mono B0.out)
  have HQ := Lib.hid (hq.mono B0.out)
  have CL := Lib.hid (hasH_any 95 #[.pointer (some ⟨w.heap.size + 1, 0, none⟩)] (fun h => cs.any (Tp.t1 h)) p hs hs.length cap _ rfl HP.out hb.len (enters_of Try.func95 (by kernel_rfl) rfl)
    (fun h hh o1 n1 o3 n3 W hW => touch_any (w.heap.size + 1) q cs cap' h o1 n1 o3 n3 W (C0.out.up hW).c (HQ.out.mono hW) hl (hb.each h hh).1 (hb.each h hh).2.1 (hb.each h hh).2.2.1 (hb.each h hh).2.2.2))
  clear hp hq O0
  go_enter Try.func63, Try.ntmps63
  go_wp2_with fail
  refine CL.out.mono ?_
  rintro e w3 ⟨rfl, hb3⟩
  go_wp2_with fail
  go_ret
  exact ⟨rfl, up_call B0.out hb3⟩
end Go.Proofs.Ytbgnckbgpiajjaa
