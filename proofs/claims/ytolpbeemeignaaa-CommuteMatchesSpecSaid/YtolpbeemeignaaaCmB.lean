/-
  slices.IndexFunc and ContainsFunc at two types; the program's touches, walked.
-/
import Derived.Test.YtolpbeemeignaaaCmA
namespace Go.Proofs.Ytolpbeemeignaaa
open Go.RowKit
set_option maxRecDepth 4000

theorem any_take {α : Type} {l : List α} {P : α → Bool} {k : Nat} (h : k < l.length) (ht : (l.take k).any P = false) : (l.take (k + 1)).any P = P l[k] := by
  rw [List.take_succ_eq_append_getElem h, List.any_append, ht, Bool.false_or, List.any_cons, List.any_nil, Bool.or_false]
theorem any_found {α : Type} {l : List α} {P : α → Bool} {k : Nat} (h : k < l.length) (hp : P l[k] = true) : l.any P = true := List.any_eq_true.2 ⟨l[k], List.getElem_mem h, hp⟩
/-- an index, or less than 0 -/
def IxPost (b : Bool) (w : World) (e : Ending) (w' : World) : Prop := ∃ i : Int, e = .returned (.int .i64 i) ∧ decide (0 ≤ i) = b ∧ Below w.heap.size w w'

set_option maxHeartbeats 2000000 in
theorem idxC_any (f : FuncId) (caps : Array Value) (P : Tp.Cg → Bool) (p : Option Addr) (cs : List Tp.Cg) (n cap : Nat) (w : World) (hn : n = cs.length) (hp : Row chE w p cs) (hl : cs.length ≤ 1000) (ef : Enters Try.prog f)
    (H : ∀ c ∈ cs, ∀ W, Below w.heap.size w W → Calls Try.prog f (#[.agg #[.int .i64 c.fr, .int .i64 c.to, .int .i64 c.gr]] ++ caps) W (BPost (.bool (P c)) W)) :
    Calls Try.prog 76 #[.slice p n cap, .func (.func f) #[] caps] w (IxPost (cs.any P) w) := by
  subst hn
  have HP := Lib.hid hp
  have HH := Lib.hid H
  have ef' : ∀ (args : Array Value) (w : World), (callFunc f args).run Try.prog w = .ok (.enter f args) w := ef
  clear hp H ef
  go_enter Try.func76, Try.ntmps76
  go_wp2_with fail
  go_loopw [8] (fun i wr => ∃ k : Nat, k ≤ cs.length ∧ i = .int .i64 k ∧ Hid ((cs.take k).any P = false) ∧ Hid (Below w.heap.size w wr)) (fun i _ => cs.length - (intOf i).toNat)
  case atStart => exact ⟨0, Nat.zero_le _, rfl, Lib.hid rfl, Lib.hid (Below.refl _ _)⟩
  case round =>
    obtain ⟨k, hk, rfl, hA, hB⟩ := hrel
    have b0 : (0 : Int) ≤ (k : Int) := by omega
    by_cases hlt : k < cs.length
    · have g1 : decide (k < cs.length) = true := by simpa using hlt
      have b1 : (k : Int) < (cs.length : Int) := by omega
      obtain ⟨b, off, rfl, hbb0, c0, c1, c2⟩ := chE_cell HP.out hlt
      replace c0 := (hB.out.cell (p := ⟨b, off + k * 3, none⟩) hbb0).trans c0
      replace c1 := (hB.out.cell (p := ⟨b, off + k * 3 + 1, none⟩) hbb0).trans c1
      replace c2 := (hB.out.cell (p := ⟨b, off + k * 3 + 2, none⟩) hbb0).trans c2
      have ST := Lib.hid (HH.out _ (List.getElem_mem hlt) wr hB.out)
      have N1 := Lib.hid (any_take hlt hA.out)
      have N2 := Lib.hid (any_found (P := P) hlt)
      have HLT := Lib.hid hlt
      obtain ⟨⟨x, y, z⟩, hx⟩ : ∃ x, x = cs[k]'hlt := ⟨_, rfl⟩
      rw [← hx] at c0 c1 c2 ST N1 N2
      dsimp only at c0 c1 c2 ST
      clear hx
      cases hP : P ⟨x, y, z⟩
      · rw [hP] at ST N1
        clear hP N2
        go_wp2_with fail
        refine ST.out.mono ?_
        rintro e w2 ⟨rfl, hb2⟩
        have B2 := Lib.hid (up_call hB.out hb2)
        clear hb2
        go_wp2_with fail
        go_roundw
        case rel => exact ⟨k + 1, HLT.out, by go_num, N1, B2⟩
        case measure => first | (simp [intOf]; done) | (simp [intOf]; omega)
      · rw [hP] at ST
        have N3 := Lib.hid (N2.out hP)
        clear hP N1 N2
        go_wp2_with fail
        refine ST.out.mono ?_
        rintro e w2 ⟨rfl, hb2⟩
        have B2 := Lib.hid (up_call hB.out hb2)
        clear hb2
        go_wp2_with fail
        go_ret
        exact ⟨(k : Int), rfl, by rw [N3.out]; simp, B2.out⟩
    · have g1 : decide (k < cs.length) = false := by simpa using hlt
      obtain rfl : k = cs.length := by omega
      have R : Hid (cs.any P = false) := Lib.hid (by have := hA.out; rwa [List.take_length] at this)
      go_wp2_with fail
      go_ret
      exact ⟨-1, rfl, by rw [R.out]; rfl, hB.out⟩

theorem hasC_any (f : FuncId) (caps : Array Value) (P : Tp.Cg → Bool) (p : Option Addr) (cs : List Tp.Cg) (n cap : Nat) (w : World) (hn : n = cs.length) (hp : Row chE w p cs) (hl : cs.length ≤ 1000) (ef : Enters Try.prog f)
    (H : ∀ c ∈ cs, ∀ W, Below w.heap.size w W → Calls Try.prog f (#[.agg #[.int .i64 c.fr, .int .i64 c.to, .int .i64 c.gr]] ++ caps) W (BPost (.bool (P c)) W)) :
    Calls Try.prog 65 #[.slice p n cap, .func (.func f) #[] caps] w (BPost (.bool (cs.any P)) w) := by
  subst hn
  have C := Lib.hid (idxC_any f caps P p cs _ cap w rfl hp hl ef H)
  clear hp H ef
  go_enter Try.func65, Try.ntmps65
  go_wp2_with fail
  refine C.out.mono ?_
  rintro e w2 ⟨i, rfl, hi, hb2⟩
  go_wp2_with fail
  go_ret
  exact ⟨by first | rfl | (rw [← hi]; rfl), hb2⟩

set_option maxHeartbeats 2000000 in
theorem idxH_any (f : FuncId) (caps : Array Value) (P : Tp.H → Bool) (p : Option Addr) (hs : List Tp.H) (n cap : Nat) (w : World) (hn : n = hs.length) (hp : Ptc w p hs) (hl : hs.length ≤ 1000) (ef : Enters Try.prog f)
    (H : ∀ h ∈ hs, ∀ (o1 n1 : Option Addr) (o3 n3 : Nat) W, Below w.heap.size w W → Calls Try.prog f (#[.agg #[.int .i64 h.at', .slice o1 h.old.length o3, .slice n1 h.new.length n3]] ++ caps) W (BPost (.bool (P h)) W)) :
    Calls Try.prog 75 #[.slice p n cap, .func (.func f) #[] caps] w (IxPost (hs.any P) w) := by
  subst hn
  have HP := Lib.hid hp
  have HH := Lib.hid H
  have ef' : ∀ (args : Array Value) (w : World), (callFunc f args).run Try.prog w = .ok (.enter f args) w := ef
  clear hp H ef
  go_enter Try.func75, Try.ntmps75
  go_wp2_with fail
  go_loopw [8] (fun i wr => ∃ k : Nat, k ≤ hs.length ∧ i = .int .i64 k ∧ Hid ((hs.take k).any P = false) ∧ Hid (Below w.heap.size w wr)) (fun i _ => hs.length - (intOf i).toNat)
  case atStart => exact ⟨0, Nat.zero_le _, rfl, Lib.hid rfl, Lib.hid (Below.refl _ _)⟩
  case round =>
    obtain ⟨k, hk, rfl, hA, hB⟩ := hrel
    have b0 : (0 : Int) ≤ (k : Int) := by omega
    by_cases hlt : k < hs.length
    · have g1 : decide (k < hs.length) = true := by simpa using hlt
      have b1 : (k : Int) < (hs.length : Int) := by omega
      obtain ⟨b, off, rfl, hbb0, ⟨o1, o2, o3⟩, ⟨n1, n2, n3⟩, c0, c1, c2, r1, r2⟩ := HP.out.cell hlt
      replace c0 := (hB.out.cell (p := ⟨b, off + k * 3, none⟩) hbb0).trans c0
      replace c1 := (hB.out.cell (p := ⟨b, off + k * 3 + 1, none⟩) hbb0).trans c1
      replace c2 := (hB.out.cell (p := ⟨b, off + k * 3 + 2, none⟩) hbb0).trans c2
      have l1 := r1.len
      have l2 := r2.len
      dsimp only at l1 l2
      subst l1 l2
      simp only [sv] at c1 c2
      have ST := Lib.hid (HH.out _ (List.getElem_mem hlt) o1 n1 o3 n3 wr hB.out)
      have N1 := Lib.hid (any_take hlt hA.out)
      have N2 := Lib.hid (any_found (P := P) hlt)
      have HLT := Lib.hid hlt
      obtain ⟨⟨z, ol, nl⟩, hx⟩ : ∃ x, x = hs[k]'hlt := ⟨_, rfl⟩
      rw [← hx] at c0 c1 c2 ST N1 N2
      dsimp only at c0 c1 c2 ST
      clear hx r1 r2
      cases hP : P ⟨z, ol, nl⟩
      · rw [hP] at ST N1
        clear hP N2
        go_wp2_with fail
        refine ST.out.mono ?_
        rintro e w2 ⟨rfl, hb2⟩
        have B2 := Lib.hid (up_call hB.out hb2)
        clear hb2
        go_wp2_with fail
        go_roundw
        case rel => exact ⟨k + 1, HLT.out, by go_num, N1, B2⟩
        case measure => first | (simp [intOf]; done) | (simp [intOf]; omega)
      · rw [hP] at ST
        have N3 := Lib.hid (N2.out hP)
        clear hP N1 N2
        go_wp2_with fail
        refine ST.out.mono ?_
        rintro e w2 ⟨rfl, hb2⟩
        have B2 := Lib.hid (up_call hB.out hb2)
        clear hb2
        go_wp2_with fail
        go_ret
        exact ⟨(k : Int), rfl, by rw [N3.out]; simp, B2.out⟩
    · have g1 : decide (k < hs.length) = false := by simpa using hlt
      obtain rfl : k = hs.length := by omega
      have R : Hid (hs.any P = false) := Lib.hid (by have := hA.out; rwa [List.take_length] at this)
      go_wp2_with fail
      go_ret
      exact ⟨-1, rfl, by rw [R.out]; rfl, hB.out⟩

theorem hasH_any (f : FuncId) (caps : Array Value) (P : Tp.H → Bool) (p : Option Addr) (hs : List Tp.H) (n cap : Nat) (w : World) (hn : n = hs.length) (hp : Ptc w p hs) (hl : hs.length ≤ 1000) (ef : Enters Try.prog f)
    (H : ∀ h ∈ hs, ∀ (o1 n1 : Option Addr) (o3 n3 : Nat) W, Below w.heap.size w W → Calls Try.prog f (#[.agg #[.int .i64 h.at', .slice o1 h.old.length o3, .slice n1 h.new.length n3]] ++ caps) W (BPost (.bool (P h)) W)) :
    Calls Try.prog 62 #[.slice p n cap, .func (.func f) #[] caps] w (BPost (.bool (hs.any P)) w) := by
  subst hn
  have C := Lib.hid (idxH_any f caps P p hs _ cap w rfl hp hl ef H)
  clear hp H ef
  go_enter Try.func62, Try.ntmps62
  go_wp2_with fail
  refine C.out.mono ?_
  rintro e w2 ⟨i, rfl, hi, hb2⟩
  go_wp2_with fail
  go_ret
  exact ⟨by first | rfl | (rw [← hi]; rfl), hb2⟩

set_option maxHeartbeats 1000000 in
theorem touch1_any (g : Nat) (h : Tp.H) (c : Tp.Cg) (w : World) (a b d : Int) (ha : a = h.at') (hb : b = Tp.en h) (hc : Cc w g a b d) :
    Calls Try.prog 66 (#[.agg #[.int .i64 c.fr, .int .i64 c.to, .int .i64 c.gr]] ++ #[.pointer (some ⟨g, 0, none⟩)]) w (BPost (.bool (Tp.t1 h c)) w) := by
  subst ha hb
  have U0 := Cc.new w c.fr c.to c.gr 83 w.heap.size rfl
  have C0 := hc.up (up_alloc (Below.refl _ _) (.cells #[.int .i64 c.fr, .int .i64 c.to, .int .i64 c.gr] 83 (0, 0)))
  obtain ⟨y0, y1, y2, y3, y4, y5, y6⟩ := U0
  obtain ⟨x0, x1, x2, x3, x4, x5, x6⟩ := C0
  have E : Hid (Tp.t1 h c = (decide (h.at' ≤ c.to) && decide (c.fr ≤ Tp.en h))) := Lib.hid rfl
  show Calls Try.prog 66 #[.agg #[.int .i64 c.fr, .int .i64 c.to, .int .i64 c.gr], .pointer (some ⟨g, 0, none⟩)] w _
  by_cases h1 : h.at' ≤ c.to
  · have g1 : decide (h.at' ≤ c.to) = true := by simpa using h1
    go_enter Try.func66, Try.ntmps66
    go_wp2_with fail
    go_ret
    refine ⟨by rw [E.out, g1, Bool.true_and]; rfl, ?_⟩
    (repeat' (first | (with_reducible exact Below.refl _ _) | (with_reducible assumption) | (with_reducible refine below_drewN ?_ _) | (with_reducible refine Below.setCell ?_ ?_ _) | (with_reducible refine Below.alloc ?_ ?_ _) | (with_reducible refine Below.drew ?_) | go_size))
  · have g1 : decide (h.at' ≤ c.to) = false := by simpa using h1
    go_enter Try.func66, Try.ntmps66
    go_wp2_with fail
    go_ret
    refine ⟨by rw [E.out, g1, Bool.false_and]; rfl, ?_⟩
    (repeat' (first | (with_reducible exact Below.refl _ _) | (with_reducible assumption) | (with_reducible refine below_drewN ?_ _) | (with_reducible refine Below.setCell ?_ ?_ _) | (with_reducible refine Below.alloc ?_ ?_ _) | (with_reducible refine Below.drew ?_) | go_size))

set_option maxHeartbeats 1000000 in
theorem touch_any (gc : Nat) (p : Option Addr) (cs : List Tp.Cg) (cap : Nat) (h : Tp.H) (o1 n1 : Option Addr) (o3 n3 : Nat) (w : World) (hc : w.cell? ⟨gc, 0, none⟩ = some (.slice p cs.length cap)) (hp : Row chE w p cs) (hl : cs.length ≤ 1000)
    (h1 : -1000000 ≤ h.at') (h2 : h.at' ≤ 1000000) (h3 : h.old.length ≤ 1000) (h4 : h.new.length ≤ 1000) :
    Calls Try.prog 63 (#[.agg #[.int .i64 h.at', .slice o1 h.old.length o3, .slice n1 h.new.length n3]] ++ #[.pointer (some ⟨gc, 0, none⟩)]) w (BPost (.bool (cs.any (Tp.t1 h))) w) := by
  show Calls Try.prog 63 #[.agg #[.int .i64 h.at', .slice o1 h.old.length o3, .slice n1 h.new.length n3], .pointer (some ⟨gc, 0, none⟩)] w _
  have hgc := cell_block_lt hc
  have U0 := Hu.new w h.at' (.slice o1 h.old.length o3) (.slice n1 h.new.length n3) 58
  have B0 := Lib.hid (up_alloc (Below.refl w.heap.size w) (.cells #[.int .i64 h.at', .slice o1 h.old.length o3, .slice n1 h.new.length n3] 58 (0, 0)))
  have HC := Lib.hid hc
  have HP := Lib.hid hp
  obtain ⟨y0, y1, y2, y3⟩ := U0
  clear hc hp
  go_enter Try.func63, Try.ntmps63
  go_wp2_with fail
  refine (changeOf_any h.at' o1 n1 h.old.length o3 h.new.length n3 _ h1 h2 (by omega) (by omega)).mono ?_
  rintro e w1 ⟨rfl, hb1⟩
  have B1 := Lib.hid (up_call B0.out hb1)
  have B2 := Lib.hid (up_alloc B1.out (.cells #[.int .i64 h.at', .int .i64 (h.at' + (h.old.length : Int)), .int .i64 ((h.new.length : Int) - (h.old.length : Int))] 83 (0, 0)))
  have C2 := Lib.hid (Cc.new w1 h.at' (h.at' + (h.old.length : Int)) ((h.new.length : Int) - (h.old.length : Int)) 83 w1.heap.size rfl)
  have c2 := (B2.out.cell (p := ⟨gc, 0, none⟩) hgc).trans HC.out
  have CL := Lib.hid (hasC_any 66 #[.pointer (some ⟨w1.heap.size, 0, none⟩)] (Tp.t1 h) p cs cs.length cap _ rfl (HP.out.mono B2.out) hl (enters_of Try.func66 (by kernel_rfl) rfl)
    (fun c _ W hW => touch1_any w1.heap.size h c W _ _ _ rfl rfl (C2.out.up hW)))
  clear hb1 y0 y1 y2 y3
  go_wp2_with fail
  refine CL.out.mono ?_
  rintro e w3 ⟨rfl, hb3⟩
  go_wp2_with fail
  go_ret
  exact ⟨rfl, up_call B2.out hb3⟩

set_option maxHeartbeats 1000000 in
theorem touches_any (p q : Option Addr) (hs : List Tp.H) (cs : List Tp.Cg) (n cap m cap' : Nat) (w : World) (hn : n = hs.length) (hm : m = cs.length) (hp : Ptc w p hs) (hb : Bd hs) (hq : Row chE w q cs) (hl : cs.length ≤ 1000) :
    Calls Try.prog 32 #[.agg #[.slice p n cap], .slice q m cap'] w (BPost (.bool (Tp.tch hs cs)) w) := by
  subst hn hm
  have B0 := Lib.hid (up_alloc (up_alloc (Below.refl w.heap.size w) (.cells #[.slice p hs.length cap] 24 (0, 0))) (.cells #[.slice q cs.length cap'] 49 (0, 0)))
  have O0 := (One.new w (.slice p hs.length cap) 24 w.heap.size rfl).alloc (.cells #[.slice q cs.length cap'] 49 (0, 0))
  have C0 := Lib.hid (One.new (w.alloc (.cells #[.slice p hs.length cap] 24 (0, 0))) (.slice q cs.length cap') 49 (w.heap.size + 1) (by simp))
  have oc := O0.c
  have HP := Lib.hid (hp.mono B0.out)
  have HQ := Lib.hid (hq.mono B0.out)
  have CL := Lib.hid (hasH_any 63 #[.pointer (some ⟨w.heap.size + 1, 0, none⟩)] (fun h => cs.any (Tp.t1 h)) p hs hs.length cap _ rfl HP.out hb.len (enters_of Try.func63 (by kernel_rfl) rfl)
    (fun h hh o1 n1 o3 n3 W hW => touch_any (w.heap.size + 1) q cs cap' h o1 n1 o3 n3 W (C0.out.up hW).c (HQ.out.mono hW) hl (hb.each h hh).1 (hb.each h hh).2.1 (hb.each h hh).2.2.1 (hb.each h hh).2.2.2))
  clear hp hq O0
  go_enter Try.func32, Try.ntmps32
  go_wp2_with fail
  refine CL.out.mono ?_
  rintro e w3 ⟨rfl, hb3⟩
  go_wp2_with fail
  go_ret
  exact ⟨rfl, up_call B0.out hb3⟩
end Go.Proofs.Ytolpbeemeignaaa
