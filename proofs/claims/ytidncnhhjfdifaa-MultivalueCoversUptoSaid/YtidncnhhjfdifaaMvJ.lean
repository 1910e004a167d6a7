
/-
  Package multivalue: joining two rows of values; sorting them, walked.
-/
import Derived.Test.YtidncnhhjfdifaaMvI
import Derived.Test.YtidncnhhjfdifaaSrt
import Derived.Test.YtidncnhhjfdifaaShelfV
import Derived.Shelf.SlSortCmp.NoneTotal
namespace Go.Proofs.Ytidncnhhjfdifaa
open Go.RowKit Go.Sort
set_option maxRecDepth 4000
set_option maxRecDepth 4000
theorem vgrow_zero (w : World) : Calls Try.prog 68 #[.slice none 0 0, .int .i64 0] w (fun e w' => e = .returned (.slice none 0 0) ∧ w' = w) := by
  go_enter Try.func68, Try.ntmps68
  go_wp2_with fail
  go_ret
  exact ⟨rfl, rfl⟩
theorem vgrow_pos (n : Nat) (h0 : 0 < n) (h : n ≤ 1000000) (w : World) : Calls Try.prog 68 #[.slice none 0 0, .int .i64 n] w (fun e w' => ∃ cap, n ≤ cap ∧ e = .returned (.slice (some ⟨w.heap.size, 0, none⟩) 0 cap) ∧ OwnE rwE w.heap.size w' (.slice (some ⟨w.heap.size, 0, none⟩) 0 cap) [] ∧ Below w.heap.size w w') := by
  have g0 : decide ((n : Int) < 0) = false := decide_eq_false (by omega)
  have g1 : decide ((0 : Int) < (n : Int)) = true := decide_eq_true (by omega)
  have g2 : IntKind.i64.wrap (n : Int) = n := IntWalk.i64_in _ (by omega)
  have g3 : Builtin.nextslicecap n 0 * Try.t35.bytes ≤ 281474976710656 := growslice_fits h0 (by show n * 32 ≤ _; omega)
  have g4 : ¬ 281474976710656 < Builtin.nextslicecap n 0 * Try.t35.bytes := by omega
  have g5 : (n : Int) * (Try.t35.bytes : Int) ≤ 281474976710656 := by show (n : Int) * 32 ≤ _; omega
  have c1 := grownCap_ge w n 0 35
  have c2 := grownCap_le_maxLen w n 0 35 (by show n ≤ _; unfold maxLen; omega)
  unfold grownCap at c1 c2
  go_enter Try.func68, Try.ntmps68
  go_wp2_with fail
  go_ret
  refine ⟨_, c1, rfl, ⟨rfl, .inr ⟨w.heap.size, _, _, rfl, Nat.le_refl _, heap_alloc_new w _, Nat.zero_le _, c2, ?_, by simp⟩⟩, (up_alloc (Below.refl _ _) _).drew⟩
  simp [Builtin.zeroCells, rwE]; omega
theorem vgrow_any (n : Nat) (h : n ≤ 1000000) (w : World) : Calls Try.prog 68 #[.slice none 0 0, .int .i64 n] w (fun e w' => ∃ v, e = .returned v ∧ OwnE rwE w.heap.size w' v [] ∧ Below w.heap.size w w') := by
  by_cases h0 : 0 < n
  · exact (vgrow_pos n h0 h w).mono fun e w' ⟨cap, _, he, ho, hb⟩ => ⟨_, he, ho, hb⟩
  · obtain rfl : n = 0 := by omega
    refine (vgrow_zero w).mono fun e w' ⟨he, hw⟩ => ⟨_, he, World.ownsRow_nil _ _ _ _, by rw [hw]; exact Below.refl _ _⟩
/-- the first j of two rows, joined -/
def twoV (A C : List Mv.R) (j : Nat) : List Mv.R := if j = 0 then [] else if j = 1 then A else A ++ C
theorem twoV_len {A C : List Mv.R} {j : Nat} (l1 : A.length ≤ 100) (l2 : C.length ≤ 100) : (twoV A C j).length ≤ 200 := by
  unfold twoV; split
  · simp
  · split
    · omega
    · rw [List.length_append]; omega
theorem twoV_step {A C : List Mv.R} {a c : Option Addr} {a3 c3 b : Nat} {w : World} {j : Nat} (hj : j < 2) (h0 : w.cell? ⟨b, 0, none⟩ = some (.slice a A.length a3)) (h1 : w.cell? ⟨b, 1, none⟩ = some (.slice c C.length c3))
    (q1 : Row rwE w a A) (q2 : Row rwE w c C) (k1 : a = none → a3 = 0) (k2 : c = none → c3 = 0) (l1 : A.length ≤ 100) (l2 : C.length ≤ 100) :
    ∃ (p : Option Addr) (l : List Mv.R) (cap : Nat), w.cell? ⟨b, j, none⟩ = some (.slice p l.length cap) ∧ Row rwE w p l ∧ (p = none → cap = 0) ∧ l.length ≤ 100 ∧ twoV A C (j + 1) = twoV A C j ++ l := by
  obtain rfl | rfl : j = 0 ∨ j = 1 := by omega
  · exact ⟨a, A, a3, h0, q1, k1, l1, rfl⟩
  · exact ⟨c, C, c3, h1, q2, k2, l2, rfl⟩
set_option maxHeartbeats 4000000 in
theorem vconcat_any (a c : Option Addr) (a3 c3 b : Nat) (A C : List Mv.R) (w : World) (h0 : w.cell? ⟨b, 0, none⟩ = some (.slice a A.length a3)) (h1 : w.cell? ⟨b, 1, none⟩ = some (.slice c C.length c3))
    (q1 : Row rwE w a A) (q2 : Row rwE w c C) (k1 : a = none → a3 = 0) (k2 : c = none → c3 = 0) (l1 : A.length ≤ 100) (l2 : C.length ≤ 100) :
    Calls Try.prog 40 #[.slice (some ⟨b, 0, none⟩) 2 2] w fun e w' => ∃ v, e = .returned v ∧ OwnE rwE w.heap.size w' v (A ++ C) ∧ Below w.heap.size w w' := by
  have ST : Hid (∀ w', Below w.heap.size w w' → ∀ j, j < 2 → ∃ (p : Option Addr) (l : List Mv.R) (cap : Nat), w'.cell? ⟨b, j, none⟩ = some (.slice p l.length cap) ∧ Row rwE w' p l ∧ (p = none → cap = 0) ∧ l.length ≤ 100 ∧ twoV A C (j + 1) = twoV A C j ++ l) :=
    Lib.hid fun w' hb j hj => twoV_step hj ((hb.cell (p := ⟨b, 0, none⟩) (cell_block_lt h0)).trans h0) ((hb.cell (p := ⟨b, 1, none⟩) (cell_block_lt h1)).trans h1) (q1.mono hb) (q2.mono hb) k1 k2 l1 l2
  have TL := Lib.hid (fun j => twoV_len (j := j) l1 l2)
  clear h0 h1 q1 q2 k1 k2 l1 l2
  go_enter Try.func40, Try.ntmps40
  go_wp2_with fail
  go_loopw [3, 11] (fun t i wr => ∃ j : Nat, j ≤ 2 ∧ i = .int .i64 j ∧ t = .int .i64 ((twoV A C j).length : Nat) ∧ w = wr) (fun _ i _ => 2 - (intOf i).toNat)
  case atStart => exact ⟨0, by omega, rfl, rfl, rfl⟩
  case round =>
    obtain ⟨j, hj, rfl, rfl, rfl⟩ := hrel
    have b0 : (0 : Int) ≤ (j : Int) := by omega
    by_cases hlt : j < 2
    · have g1 : decide ((j : Int) < 2) = true := decide_eq_true (by omega)
      have b1 : (j : Int) < 2 := by omega
      obtain ⟨p, l, cap, hc, -, -, hl, ht⟩ := ST.out w (Below.refl _ _) j hlt
      have tl := TL.out j
      have NX := Lib.hid (show (twoV A C (j + 1)).length = (twoV A C j).length + l.length by rw [ht, List.length_append])
      obtain ⟨m, hm⟩ : ∃ m, m = (twoV A C j).length := ⟨_, rfl⟩
      rw [← hm] at tl NX ⊢
      have w1 : IntKind.i64.wrap ((m : Int) + (l.length : Int)) = (m : Int) + (l.length : Int) := IntWalk.i64_in _ (by omega)
      have g2 : decide ((m : Int) + (l.length : Int) < 0) = false := decide_eq_false (by omega)
      clear ht hm tl hl
      go_wp2_with fail
      go_roundw
      case rel => exact ⟨j + 1, hlt, by go_num, by rw [NX.out]; go_num, trivial⟩
      case measure => first | (simp [intOf]; done) | (simp [intOf]; omega)
    · have g1 : decide ((j : Int) < 2) = false := decide_eq_false (by omega)
      obtain rfl : j = 2 := by omega
      have tl := TL.out 2
      have GR := Lib.hid (vgrow_any (twoV A C 2).length (by omega) w)
      clear tl b0 hj hlt
      go_wp2_with fail
      refine GR.out.mono ?_
      rintro e w1 ⟨v, rfl, own, bel⟩
      have OWN := Lib.hid own
      have BEL := Lib.hid bel
      clear own bel GR g1
      go_wp2_with fail
      go_loopw [6, 27] (fun u i wq => ∃ j : Nat, j ≤ 2 ∧ i = .int .i64 j ∧ Hid (OwnE rwE w.heap.size wq u (twoV A C j)) ∧ Hid (Below w.heap.size w wq)) (fun _ i _ => 2 - (intOf i).toNat)
      case atStart => exact ⟨0, by omega, rfl, OWN, BEL⟩
      case round =>
        clear OWN BEL
        obtain ⟨j, hj, rfl, OWN, BEL⟩ := hrel
        have b0 : (0 : Int) ≤ (j : Int) := by omega
        by_cases hlt : j < 2
        · have g1 : decide ((j : Int) < 2) = true := decide_eq_true (by omega)
          have b1 : (j : Int) < 2 := by omega
          obtain ⟨p, l, cap, hc, hs, hn, hl, ht⟩ := ST.out wr BEL.out j hlt
          have HS := Lib.hid hs
          have HN := Lib.hid hn
          have HT := Lib.hid ht
          have HL := Lib.hid (show ((twoV A C j).length + l.length) * rwE.bytes ≤ 140737488355328 by have := TL.out j; show _ * 32 ≤ _; omega)
          have HM := Lib.hid (show (twoV A C j).length + l.length ≤ maxLen by have := TL.out j; unfold maxLen; omega)
          have HZ := Lib.hid BEL.out.size
          clear hs hn ht hl
          go_wp2_with (at_builtin; refine wp_appN rwE rfl (.tmp 31) (.tmp 32) rfl w.heap.size _ (twoV A C j) l p cap rfl OWN.out rfl HS.out HN.out HL.out HM.out HZ.out ?_; intro v' w' own bel)
          have OWN2 : Hid (OwnE rwE w.heap.size w' v' (twoV A C (j + 1))) := Lib.hid (by rw [HT.out]; exact own)
          have BEL2 := Lib.hid (BEL.out.grown bel HZ.out (fun k hk => (ownE_block OWN.out k hk).1))
          clear own bel
          go_wp2_with fail
          go_roundw
          case rel => exact ⟨j + 1, hlt, by go_num, OWN2, BEL2⟩
          case measure => first | (simp [intOf]; done) | (simp [intOf]; omega)
        · have g1 : decide ((j : Int) < 2) = false := decide_eq_false (by omega)
          obtain rfl : j = 2 := by omega
          go_wp2_with fail
          go_ret
          exact ⟨_, rfl, OWN.out, BEL.out⟩
/-- the order of the merge -/
theorem mvCmpV_any (x y : Mv.R) (w : World) (hx : Row nE w x.p x.vec) (hy : Row nE w y.p y.vec) (hl : x.vec.length ≤ 100) :
    Calls Try.prog 45 #[.agg #[.int .i64 x.val, .slice x.p x.vec.length x.cap], .agg #[.int .i64 y.val, .slice y.p y.vec.length y.cap]] w
      (fun e w' => e = .returned (.int .i64 (Mv.cmpL x.vec y.vec)) ∧ Below w.heap.size w w' ∧ w.drawn ≤ w'.drawn) := by
  have up1 := boxV_up w x
  have up2 := boxV_up (boxV w x) y
  have V1 := (VB.new w x).up up2
  have V2 := VB.new (boxV w x) y
  have z1 : (boxV w x).heap.size = w.heap.size + 1 := World.size_alloc _ _
  have U := up1.trans (up2.mono up1.size)
  have CL := Lib.hid (cmpL_any x.p y.p x.vec y.vec x.cap y.cap _ ((hx.mono U)) (hy.mono U) hl)
  rw [z1] at V2
  clear hx hy up1 up2
  have D0 : w.drawn ≤ (boxV (boxV w x) y).drawn := Nat.le_refl _
  obtain ⟨x0, xp, xc, xv⟩ := x
  obtain ⟨y0, yp, yc, yv⟩ := y
  unfold boxV at V1 V2 CL U D0
  dsimp only at V1 V2 CL U D0 hl ⊢
  obtain ⟨c0, c1, -⟩ := V1
  obtain ⟨d0, d1, -⟩ := V2
  dsimp only at c0 c1 d0 d1
  clear z1
  go_enter Try.func45, Try.ntmps45
  go_wp2_with fail
  refine CL.out.mono ?_
  rintro e w2 ⟨rfl, rfl⟩
  go_wp2_with fail
  go_ret
  exact ⟨rfl, U, D0⟩
/-- a row's own values, as elements -/
def subE (l : List Mv.R) : Enc {r : Mv.R // r ∈ l} where
  ty := rwE.ty
  sl := rwE.sl
  size := 2
  bytes := 32
  z := rwE.z
  enc r := rwE.enc r.1
  len r := rwE.len r.1
  one r u h := rwE.one r.1 u h
  pos := rwE.pos
  zs := rwE.zs
  und := rwE.und
  inf := rwE.inf
theorem attach_flat (l : List Mv.R) : l.attach.flatMap (subE l).enc = l.flatMap rwE.enc := by
  have e : l.flatMap rwE.enc = (l.attach.map (·.1)).flatMap rwE.enc := by rw [List.attach_map_subtype_val]
  rw [e, List.flatMap_map]; rfl
theorem flat_val {l : List Mv.R} (m : List {r : Mv.R // r ∈ l}) : m.flatMap (subE l).enc = (m.map (·.1)).flatMap rwE.enc := by
  rw [List.flatMap_map]; rfl
def cmpS {l : List Mv.R} (x y : {r : Mv.R // r ∈ l}) : Int := Mv.cmpL x.1.vec y.1.vec
theorem swoS {l : List Mv.R} : SWO (ltOf (cmpS (l := l))) where
  irrefl x := by unfold ltOf cmpS; rw [decide_eq_false_iff_not]; exact Mv.lt_irrefl _
  trans x y z h1 h2 := by
    unfold ltOf cmpS at *
    rw [decide_eq_true_eq] at *
    exact Mv.cmpL_trans _ _ _ h1 h2
  ntrans x y z h1 h2 := by
    unfold ltOf cmpS at *
    rw [decide_eq_false_iff_not] at *
    intro h3
    rcases Mv.cmpL_total y.1.vec x.1.vec with h | h | h
    · exact h2 (Mv.cmpL_trans _ _ _ h h3)
    · exact h1 h
    · rw [h] at h2; exact h2 h3
theorem sortV_any (B : Nat) (v : Value) (l : List Mv.R) (w : World) (h : Kept B w v l) (hl : l.length ≤ 1000) (hv : ∀ r ∈ l, r.vec.length ≤ 100) (hbs : B ≤ w.heap.size) :
    Calls Try.prog 44 #[v, .func (.func 45) #[] #[]] w fun e w' => e = .returned (.tuple #[]) ∧ ∃ l', l'.Perm l ∧ l'.Pairwise (fun x y => ¬ Mv.cmpL y.vec x.vec < 0) ∧ Kept B w' v l' ∧ Below B w w' := by
  by_cases hne : l = []
  · subst hne
    obtain ⟨p, cap, rfl, -, -, -, -⟩ := row_of_own h.own
    have hc := AnyF.slices_SortFunc_none Try.sortVn p cap (.func (.func 45) #[] #[]) w
    change Calls Try.prog 44 _ _ _ at hc
    exact hc.mono fun _ _ ⟨h1, h2⟩ => ⟨h1, [], .nil, List.Pairwise.nil, h2 ▸ h, h2 ▸ Below.refl _ _⟩
  · have : Inhabited {r : Mv.R // r ∈ l} := ⟨⟨l.head hne, List.head_mem hne⟩⟩
    have hO : OwnE (subE l) B w v l.attach := by
      unfold OwnE
      rw [attach_flat, List.length_attach]
      exact h.own
    obtain ⟨g, cap, e0, hb, hlt, hH, hW⟩ := own_sort (subE l) hO (by simpa using hne)
    have hvk : ∀ (w' : World), w.grownBy w' (some g) → ∀ r ∈ l, OwnE nE B w' (.slice r.p r.vec.length r.cap) r.vec := fun w' gr r hr => (h.vec r hr).keptG (e' := rwE) (by decide) h.own (by rw [e0]; exact gr)
    have eg : ∀ args w, (callFunc 45 args).run Try.prog w = .ok (.enter 45 args) w := enters_of Try.func45 (by kernel_rfl) rfl
    rw [List.length_attach] at e0 hW
    have lays : CmpLays Try.prog 45 #[] (subE l).enc 2 cmpS g 0 l.attach.toArray.size w := fun m os dk hdk x y => by
      have hgr := (hW dk m os (by simpa using hdk)).2
      obtain ⟨p1, c1, e1, r1, -, -, -⟩ := row_of_own (hvk _ hgr x.1 x.2)
      obtain ⟨p2, c2, e2, r2, -, -, -⟩ := row_of_own (hvk _ hgr y.1 y.2)
      cases e1
      cases e2
      exact (mvCmpV_any x.1 y.1 _ r1 r2 (hv _ x.2)).mono fun _ _ ⟨he, hb, hd⟩ => ⟨he, below_grown_by hb hd⟩
    have hc := AnyQ.slices_SortFunc Try.sortVn 2 (fun _ => by kernel_rfl) (fun _ => by kernel_rfl) (subE l).enc (fun _ => rfl) (subE l).one cmpS swoS 45 #[] g 0 cap l.attach.toArray w eg lays hH hlt (by simp; omega)
    change Calls Try.prog 44 _ _ _ at hc
    rw [List.size_toArray, List.length_attach] at hc
    subst e0
    refine hc.mono ?_
    rintro e w' ⟨he, d, n, os, hP, hS, rfl⟩
    have hd : d.size = l.length := by simpa using hP.1
    obtain ⟨o1, o2⟩ := hW d n os hd
    have hp : d.toList.Perm l.attach := by
      have := hP.2.2
      rw [show (l.attach.toArray.extract 0 l.length).toList = l.attach by (have e : l.attach.take l.length = l.attach := List.take_of_length_le (by simp)); simpa using e, show (d.extract 0 l.length).toList = d.toList by rw [← hd]; simp] at this
      exact this
    have hp2 : (d.toList.map (·.1)).Perm l := by
      have := hp.map (·.1)
      rwa [List.attach_map_subtype_val] at this
    refine ⟨he, d.toList.map (·.1), hp2, ?_, ⟨?_, fun r hr => hvk _ o2 r (hp2.subset hr)⟩, (Below.refl _ _).grown o2 hbs (fun k e => by cases e; exact hb)⟩
    · rw [List.pairwise_map, List.pairwise_iff_getElem]
      intro i j hi hj hij
      have hi' : i < d.size := by simpa using hi
      have hj' : j < d.size := by simpa using hj
      have := hS i j (Nat.zero_le _) hij (by omega)
      unfold ltOf cmpS at this
      rw [decide_eq_false_iff_not, getElem!_pos d j hj', getElem!_pos d i hi'] at this
      simpa using this
    · unfold OwnE at o1 ⊢
      rw [flat_val] at o1
      rw [List.length_map]
      exact o1
end Go.Proofs.Ytidncnhhjfdifaa
