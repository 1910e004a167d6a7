
/-
  Package multivalue: the first conflict; copies of vectors; what remains of a register, walked.
-/
import Derived.Test.YtidncnhhjfdifaaMvF
import Derived.Test.YtidncnhhjfdifaaApp
import Derived.Test.YtidncnhhjfdifaaRegM
import Derived.Lib.SliceRun
namespace Go.Proofs.Ytidncnhhjfdifaa
open Go.RowKit
set_option maxRecDepth 4000

set_option maxHeartbeats 1000000 in
theorem fcIn_any (g : Nat) (v e : Mv.R) (w : World) (hb : VB w g v) (hv : Row nE w v.p v.vec) (he : Row nE w e.p e.vec) (hl : e.vec.length = v.vec.length) (hvl : v.vec.length ≤ 100) :
    Calls Try.prog 66 (#[.agg #[.int .i64 e.val, .slice e.p e.vec.length e.cap]] ++ #[.pointer (some ⟨g, 0, none⟩)]) w (BPost (.bool ((e.val != v.val) && (e.vec == v.vec))) w) := by
  have up0 := boxV_up w e
  have V1 := VB.new w e
  have V2 := hb.up up0
  have CL := Lib.hid (nequal_any e.p v.p e.vec v.vec e.cap v.cap _ (he.mono up0) (hv.mono up0) hl (by omega))
  clear hb hv he
  obtain ⟨e0, ep, ec, ev⟩ := e
  obtain ⟨v0, vp, vc, vv⟩ := v
  unfold boxV at up0 V1 V2 CL
  dsimp only at up0 V1 V2 CL hl hvl ⊢
  obtain ⟨c0, c1, -⟩ := V1
  obtain ⟨d0, d1, -⟩ := V2
  dsimp only at c0 c1 d0 d1
  clear hl
  generalize (ev == vv) = x at CL ⊢
  show Calls Try.prog 66 #[.agg #[.int .i64 e0, .slice ep ev.length ec], .pointer (some ⟨g, 0, none⟩)] w _
  cases h0 : (e0 != v0) with
  | false =>
    rw [Bool.false_and]
    go_enter Try.func66, Try.ntmps66
    go_wp2_with fail
    go_ret
    exact ⟨rfl, up0⟩
  | true =>
    rw [Bool.true_and]
    go_enter Try.func66, Try.ntmps66
    go_wp2_with fail
    refine CL.out.mono ?_
    rintro e w2 ⟨rfl, n, rfl⟩
    go_wp2_with fail
    go_ret
    exact ⟨rfl, below_drewN up0 n⟩
theorem fcOut_any (g : Nat) (v : Mv.R) (p : Option Addr) (ra : List Mv.R) (ca : Nat) (w : World) (hc : w.cell? ⟨g, 0, none⟩ = some (.slice p ra.length ca)) (hp : Vs w p ra) (hv : Row nE w v.p v.vec) (hl : ra.length ≤ 100) (h6 : ∀ r ∈ ra, r.vec.length = v.vec.length) (hvl : v.vec.length ≤ 100) :
    Calls Try.prog 64 (#[.agg #[.int .i64 v.val, .slice v.p v.vec.length v.cap]] ++ #[.pointer (some ⟨g, 0, none⟩)]) w (BPost (.bool (Mv.clash (Mv.vs ra) v.v)) w) := by
  have up0 := boxV_up w v
  have V1 := Lib.hid (VB.new w v)
  have c0 := (up0.cell (p := ⟨g, 0, none⟩) (cell_block_lt hc)).trans hc
  have HP := Lib.hid (hp.mono up0)
  have HV := Lib.hid (hv.mono up0)
  have H6 := Lib.hid h6
  have e1 : Mv.clash (Mv.vs ra) v.v = ra.any (fun r => (r.val != v.val) && (r.vec == v.vec)) := by unfold Mv.clash; rw [vs_any]; rfl
  rw [e1]
  have CL := Lib.hid (hasV_any 66 #[.pointer (some ⟨w.heap.size, 0, none⟩)] (fun r => (r.val != v.val) && (r.vec == v.vec)) p ra ca _ HP.out hl (enters_of Try.func66 (by kernel_rfl) rfl)
    (fun r hr W hW => fcIn_any w.heap.size v r W (V1.out.up hW) (HV.out.mono hW) ((HP.out.vec r hr).mono hW) (H6.out r hr) hvl))
  clear hp hv h6 hc e1
  generalize (ra.any fun r => (r.val != v.val) && (r.vec == v.vec)) = x at CL ⊢
  obtain ⟨v0, vp, vc, vv⟩ := v
  unfold boxV at up0 c0 CL
  dsimp only at up0 c0 CL ⊢
  show Calls Try.prog 64 #[.agg #[.int .i64 v0, .slice vp vv.length vc], .pointer (some ⟨g, 0, none⟩)] w _
  go_enter Try.func64, Try.ntmps64
  go_wp2_with fail
  refine CL.out.mono ?_
  rintro e w2 ⟨rfl, hb2⟩
  go_wp2_with fail
  go_ret
  exact ⟨rfl, up_call up0 hb2⟩
theorem ix_vs (P : Mv.V → Bool) (rs : List Mv.R) : ix (fun r : Mv.R => P r.v) rs = ix P (Mv.vs rs) := by
  unfold ix Mv.vs
  rw [List.findIdx?_map]
  rfl
theorem firstConflict_any (p q : Option Addr) (ra rb : List Mv.R) (ca cb : Nat) (w : World) (hp : Vs w p ra) (hq : Vs w q rb) (hla : ra.length ≤ 100) (hlb : rb.length ≤ 100) (ha : ∀ r ∈ ra, r.vec.length = 6) (hb : ∀ r ∈ rb, r.vec.length = 6) :
    Calls Try.prog 39 #[.slice p ra.length ca, .slice q rb.length cb] w (BPost (.int .i64 (ix (Mv.clash (Mv.vs ra)) (Mv.vs rb))) w) := by
  have up0 := up_alloc (Below.refl w.heap.size w) (.cells #[.slice p ra.length ca] 22 (0, 0))
  have c0 : (w.alloc (.cells #[.slice p ra.length ca] 22 (0, 0))).cell? ⟨w.heap.size, 0, none⟩ = some (.slice p ra.length ca) := by rw [World.cell?_alloc_mark]; rfl
  have hlt := cell_block_lt c0
  rw [← ix_vs]
  have CL := Lib.hid (idxV_any 64 #[.pointer (some ⟨w.heap.size, 0, none⟩)] (fun v => Mv.clash (Mv.vs ra) v.v) q rb cb _ (hq.mono up0) hlb (enters_of Try.func64 (by kernel_rfl) rfl)
    (fun v hv W hW => fcOut_any w.heap.size v p ra ca W ((hW.cell (p := ⟨w.heap.size, 0, none⟩) hlt).trans c0) ((hp.mono up0).mono hW) (((hq.mono up0).vec v hv).mono hW) hla (fun r hr => by rw [ha r hr, hb v hv]) (by rw [hb v hv]; decide)))
  clear hp hq hla hlb ha hb
  generalize (ix (fun v : Mv.R => Mv.clash (Mv.vs ra) v.v) rb) = x at CL ⊢
  go_enter Try.func39, Try.ntmps39
  go_wp2_with fail
  refine CL.out.mono ?_
  rintro e w2 ⟨rfl, hb2⟩
  go_wp2_with fail
  go_ret
  exact ⟨rfl, up_call up0 hb2⟩
theorem nclone_any (p : Option Addr) (l : List Int) (cap : Nat) (w : World) (hp : Row nE w p l) (hc : p = none → cap = 0) (hl : l.length ≤ 1000000) :
    Calls Try.prog 70 #[.slice p l.length cap] w fun e w' => ∃ (o1 : Option Addr) (o3 : Nat), e = .returned (.slice o1 l.length o3) ∧ OwnE nE w.heap.size w' (.slice o1 l.length o3) l ∧ Below w.heap.size w w' := by
  cases p with
  | none =>
    have e := hp.nil' rfl
    subst e
    obtain rfl := hc rfl
    go_enter Try.func70, Try.ntmps70
    have q0 := fun w => Lib.run_eql_slice_nil (P := Try.prog) w 33 3 none 0 0 0 0 Try.underlying33
    go_wp2_with fail
    go_ret
    exact ⟨none, 0, rfl, ownE_nil _ _ _, Below.refl _ _⟩
  | some ad =>
    have E0 := Lib.hid (ownE_emptyG nE w w.heap.size w.heap.size rfl (Nat.le_refl _))
    have hbz : w.heap.size ≤ (w.alloc (.cells #[] 3 (0, 0))).heap.size := by simp
    have B0 := up_alloc (Below.refl w.heap.size w) (.cells #[] 3 (0, 0))
    have S0 := Lib.hid (hp.mono B0)
    have BH := Lib.hid B0
    have q0 := fun w => Lib.run_eql_slice_nil (P := Try.prog) w 33 3 (some ad) l.length cap 0 0 Try.underlying33
    clear hp B0 hc
    go_enter Try.func70, Try.ntmps70
    go_wp2_with (at_builtin; refine wp_appN nE rfl (.tmp 5) (.tmp 6) rfl w.heap.size (.slice (some ⟨w.heap.size, 0, none⟩) 0 0) [] l (some ad) cap rfl E0.out rfl S0.out (fun h => (by cases h)) (by simp [nE]; omega) (by unfold maxLen; simp; omega) hbz ?_; intro v' w' own bel)
    have OWN := Lib.hid own
    have BEL := Lib.hid (BH.out.grown bel hbz (fun k hk => by cases hk; exact Nat.le_refl _))
    clear own bel
    go_ret
    obtain ⟨p', cp, rfl, -, -, -, -⟩ := row_of_own OWN.out
    exact ⟨p', cp, rfl, OWN.out, BEL.out⟩
end Go.Proofs.Ytidncnhhjfdifaa
