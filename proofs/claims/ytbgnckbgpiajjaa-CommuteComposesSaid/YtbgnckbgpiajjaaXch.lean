/-
  A region that calls, and lays three variables in whatever order: walked by the state that it is in.
-/
import Derived.Test.YtbgnckbgpiajjaaCmD
import Derived.Test.YtbgnckbgpiajjaaTpH
import Derived.Test.YtbgnckbgpiajjaaTqH
import Derived.Deep.RegionHeld3
namespace Go.Proofs.Ytbgnckbgpiajjaa
open Go.RowKit
set_option maxRecDepth 4000

abbrev rX : ByteArray := ⟨#[120]⟩
def xP : List Tp.H := [⟨0, [], [rA]⟩]
def xQ : List Tp.H := [⟨5, [rX], []⟩]
def xR : List Tp.H := [⟨4, [rX], []⟩]

/-- the region's operations -/
noncomputable def xOps : Array Oper := match Try.f38.body with
  | some (.seq _ (.seq _ (.seq (.region _ o _) _))) => o
  | _ => #[]
theorem xo0 : ∃ o, xOps[0]? = some o ∧ o.op = .load 41 (.tmp 1) ∧ o.dst = some 9 ∧ o.guard = none := ⟨_, rfl, rfl, rfl, rfl⟩
theorem xo1 : ∃ o, xOps[1]? = some o ∧ o.op = .buildSlice 22 1 #[(0, .const (.string rX))] ∧ o.dst = some 10 ∧ o.guard = none := ⟨_, rfl, rfl, rfl, rfl⟩
theorem xo2 : ∃ o, xOps[2]? = some o ∧ o.op = .call { callee := .value (.func 76), args := #[.const (.int .i64 5), .tmp 10, .const (.slice none 0 0)], argTypes := #[3, 22, 22] } ∧ o.dst = some 11 ∧ o.guard = none := ⟨_, rfl, rfl, rfl, rfl⟩
theorem xo3 : ∃ o, xOps[3]? = some o ∧ o.op = .call { callee := .value (.func 37), args := #[.tmp 9, .tmp 11], argTypes := #[41, 41] } ∧ o.dst = some 12 ∧ o.guard = none := ⟨_, rfl, rfl, rfl, rfl⟩
theorem xo4 : ∃ o, xOps[4]? = some o ∧ o.op = .move (.tmp 12) ∧ o.dst = some 8 ∧ o.guard = none := ⟨_, rfl, rfl, rfl, rfl⟩
theorem xo5 : ∃ o, xOps[5]? = some o ∧ o.op = .extract (.tmp 8) 0 ∧ o.dst = some 13 ∧ o.guard = none := ⟨_, rfl, rfl, rfl, rfl⟩
theorem xo6 : ∃ o, xOps[6]? = some o ∧ o.op = .extract (.tmp 8) 1 ∧ o.dst = some 14 ∧ o.guard = none := ⟨_, rfl, rfl, rfl, rfl⟩
theorem xo7 : ∃ o, xOps[7]? = some o ∧ o.op = .extract (.tmp 8) 2 ∧ o.dst = some 15 ∧ o.guard = none := ⟨_, rfl, rfl, rfl, rfl⟩
theorem xo8 : ∃ o, xOps[8]? = some o ∧ o.op = .extract (.tmp 8) 3 ∧ o.dst = some 16 ∧ o.guard = none := ⟨_, rfl, rfl, rfl, rfl⟩
theorem xo9 : ∃ o, xOps[9]? = some o ∧ o.op = .alloc 41 ∧ o.dst = some 2 ∧ o.guard = none := ⟨_, rfl, rfl, rfl, rfl⟩
theorem xo10 : ∃ o, xOps[10]? = some o ∧ o.op = .alloc 41 ∧ o.dst = some 3 ∧ o.guard = none := ⟨_, rfl, rfl, rfl, rfl⟩
theorem xo11 : ∃ o, xOps[11]? = some o ∧ o.op = .alloc 25 ∧ o.dst = some 5 ∧ o.guard = none := ⟨_, rfl, rfl, rfl, rfl⟩
theorem xo12 : ∃ o, xOps[12]? = some o ∧ o.op = .store 41 (.tmp 2) (.tmp 13) ∧ o.dst = none ∧ o.guard = none := ⟨_, rfl, rfl, rfl, rfl⟩
theorem xo13 : ∃ o, xOps[13]? = some o ∧ o.op = .store 41 (.tmp 3) (.tmp 14) ∧ o.dst = none ∧ o.guard = none := ⟨_, rfl, rfl, rfl, rfl⟩
theorem xo14 : ∃ o, xOps[14]? = some o ∧ o.op = .assign (.tmp 15) ∧ o.dst = some 4 ∧ o.guard = none := ⟨_, rfl, rfl, rfl, rfl⟩
theorem xo15 : ∃ o, xOps[15]? = some o ∧ o.op = .store 25 (.tmp 5) (.tmp 16) ∧ o.dst = none ∧ o.guard = none := ⟨_, rfl, rfl, rfl, rfl⟩

/-! one operation -/
section
variable {Q : Exit → Act → World → Prop} {K : Act → World → Prop} {ops : Array Oper} {i : Nat} {o : Oper} {a : Act} {w : World}
theorem wpOp_in (ho : ops[i]? = some o) (hg : o.guard = none) (h : Oper.wp Try.prog o a w K Q) : wpOp Try.prog ops Q i K a w := by
  unfold wpOp
  rw [ho]
  dsimp only
  rw [if_pos (by simp [Region.wanted, hg])]
  exact .inl h
theorem wpOp_allocP (ho : ops[i]? = some o) (hop : o.op = .alloc 41) (hg : o.guard = none) (h : K (a.put o.dst (.pointer (some ⟨w.heap.size, 0, none⟩))) (w.alloc (.cells #[.slice none 0 0] 41 (0, 0)))) : wpOp Try.prog ops Q i K a w := by
  refine wpOp_in ho hg ?_
  obtain ⟨dst, op, ty, pos, after, guard⟩ := o
  dsimp only at hop hg h
  subst hop hg
  go_simp
  exact h
theorem wpOp_allocF (ho : ops[i]? = some o) (hop : o.op = .alloc 25) (hg : o.guard = none) (h : K (a.put o.dst (.pointer (some ⟨w.heap.size, 0, none⟩))) (w.alloc (.cells #[.int .i64 0, .int .i64 0] 25 (0, 0)))) : wpOp Try.prog ops Q i K a w := by
  refine wpOp_in ho hg ?_
  obtain ⟨dst, op, ty, pos, after, guard⟩ := o
  dsimp only at hop hg h
  subst hop hg
  go_simp
  exact h
theorem wpOp_lit (ho : ops[i]? = some o) (s : ByteArray) (hop : o.op = .buildSlice 22 1 #[(0, .const (.string s))]) (hg : o.guard = none) (h : K (a.put o.dst (.slice (some ⟨w.heap.size, 0, none⟩) 1 1)) (w.alloc (.cells #[.string s] 9 (0, 0)))) : wpOp Try.prog ops Q i K a w := by
  refine wpOp_in ho hg ?_
  obtain ⟨dst, op, ty, pos, after, guard⟩ := o
  dsimp only at hop hg h
  subst hop hg
  go_simp
  exact h
theorem wpOp_storeP (ho : ops[i]? = some o) (x y : Nat) (hop : o.op = .store 41 (.tmp x) (.tmp y)) (hd : o.dst = none) (hg : o.guard = none) (g : Nat) (u : Value) (v1 : Option Addr) (v2 v3 : Nat) (hx : (a.tmps[x]?).getD undef = .pointer (some ⟨g, 0, none⟩)) (hy : (a.tmps[y]?).getD undef = .agg #[.slice v1 v2 v3]) (hc : One w g u) (h : K a (w.setCell ⟨g, 0, none⟩ (.slice v1 v2 v3))) : wpOp Try.prog ops Q i K a w := by
  refine wpOp_in ho hg ?_
  obtain ⟨dst, op, ty, pos, after, guard⟩ := o
  dsimp only at hop hg hd h
  subst hop hg hd
  have c := hc.c
  have f := hc.f
  go_simp
  exact h
theorem wpOp_storeF (ho : ops[i]? = some o) (x y : Nat) (hop : o.op = .store 25 (.tmp x) (.tmp y)) (hd : o.dst = none) (hg : o.guard = none) (g : Nat) (z1 z2 c1 c2 : Int) (hx : (a.tmps[x]?).getD undef = .pointer (some ⟨g, 0, none⟩)) (hy : (a.tmps[y]?).getD undef = .agg #[.int .i64 c1, .int .i64 c2]) (hc : Flt w g z1 z2) (h : K a ((w.setCell ⟨g, 0, none⟩ (.int .i64 c1)).setCell ⟨g, 1, none⟩ (.int .i64 c2))) : wpOp Try.prog ops Q i K a w := by
  refine wpOp_in ho hg ?_
  obtain ⟨dst, op, ty, pos, after, guard⟩ := o
  dsimp only at hop hg hd h
  subst hop hg hd
  obtain ⟨a0, a1, a2, a3, a4⟩ := hc
  go_simp
  exact h
theorem wpOp_call (ho : ops[i]? = some o) (f : FuncId) (xs : Array Operand) (ts : Array TypeId) (args : Array Value) (hop : o.op = .call { callee := .value (.func f), args := xs, argTypes := ts }) (hg : o.guard = none) (hx : xs.map a.eval = args)
    (h : Calls Try.prog f args w fun e w' => ∃ v, e = .returned v ∧ K (a.put o.dst v) w') (hent : ∀ (args : Array Value) (w : World), (callFunc f args).run Try.prog w = .ok (.enter f args) w) : wpOp Try.prog ops Q i K a w := by
  refine wpOp_in ho hg ?_
  have e : (execOp a.eval o).run Try.prog w = .ok (.enter f args) w := by
    unfold execOp
    rw [hop]
    have hx' : Array.map (fun x => a.eval x) xs = args := hx
    have h0 := hent args w
    have hf : a.eval (.func f) = .func (.func f) #[] #[] := rfl
    simp [resolve, invoke, hf, Deferred.ofValue, hx', h0]
  unfold Oper.wp
  rw [e]
  dsimp only [Oper.upon]
  refine h.mono ?_
  rintro e w' ⟨v, rfl, hv⟩
  exact hv
theorem yl_tmp (S : World → Prop) (t : Nat) (v : Value) (hop : o.op = .move (.tmp t) ∨ o.op = .assign (.tmp t)) (hg : o.guard = none) (hx : (a.tmps[t]?).getD undef = v) : YieldsIf Try.prog ops S o v a := by
  refine .inl ⟨by simp [Region.wanted, hg], fun w _ => ?_⟩
  obtain ⟨dst, op, ty, pos, after, guard⟩ := o
  dsimp only at hop hg
  rcases hop with hop | hop <;> subst hop hg <;> go_simp
theorem yl_extract (S : World → Prop) (t k : Nat) (vs : Array Value) (v : Value) (hop : o.op = .extract (.tmp t) k) (hg : o.guard = none) (hx : (a.tmps[t]?).getD undef = .tuple vs) (hv : vs[k]? = some v) : YieldsIf Try.prog ops S o v a := by
  refine .inl ⟨by simp [Region.wanted, hg], fun w _ => ?_⟩
  obtain ⟨dst, op, ty, pos, after, guard⟩ := o
  dsimp only at hop hg
  subst hop hg
  go_simp
theorem yl_load (g : Nat) (v : Value) (t : Nat) (hop : o.op = .load 41 (.tmp t)) (hg : o.guard = none) (hx : (a.tmps[t]?).getD undef = .pointer (some ⟨g, 0, none⟩)) : YieldsIf Try.prog ops (fun w' => w'.cell? ⟨g, 0, none⟩ = some v) o (.agg #[v]) a := by
  refine .inl ⟨by simp [Region.wanted, hg], fun w hS => ?_⟩
  dsimp only at hS
  obtain ⟨dst, op, ty, pos, after, guard⟩ := o
  dsimp only at hop hg
  subst hop hg
  go_simp
end
/-! the states -/
def pv (b : Bool) (g : Nat) : Value := match b with
  | true => .pointer (some ⟨g, 0, none⟩)
  | false => undef
abbrev xF (gp : Nat) (s6 s7 s2 s3 s4 s5 s8 s9 s10 s11 s12 s13 s14 s15 s16 : Value) : Act :=
  ⟨#[.bool false, .pointer (some ⟨gp, 0, none⟩), s2, s3, s4, s5, s6, s7, s8, s9, s10, s11, s12, s13, s14, s15, s16, undef, undef, undef, undef, undef, undef, undef, undef, undef, undef, undef, undef, undef, undef, undef, undef, undef], []⟩
abbrev xT (pa : Option Addr) (ca : Nat) (pb : Option Addr) (cb : Nat) : Array Value := #[.agg #[.slice pa 1 ca], .agg #[.slice pb 1 cb], .bool true, .agg #[.int .i64 0, .int .i64 0]]
abbrev xS (gp : Nat) (p : Option Addr) : World → Prop := fun w' => w'.cell? ⟨gp, 0, none⟩ = some (.slice p 1 1)
/-- the hunks lie in the blocks from lo up to hi -/
structure PtR (lo hi : Nat) (w : World) (p : Option Addr) (hs : List Tp.H) : Prop where
  le : hi ≤ w.heap.size
  all : ∀ W : World, hi ≤ W.heap.size → (∀ k, lo ≤ k → k < hi → W.heap[k]? = w.heap[k]?) → Ptc W p hs
theorem PtR.up {lo hi : Nat} {w w' : World} {p : Option Addr} {hs : List Tp.H} (h : PtR lo hi w p hs) (hb : Below w.heap.size w w') : PtR lo hi w' p hs :=
  ⟨Nat.le_trans h.le hb.size, fun W h1 h2 => h.all W h1 fun k h3 h4 => by rw [h2 k h3 h4, hb.block k (Nat.lt_of_lt_of_le h4 h.le)]⟩
theorem PtR.set {lo hi : Nat} {w : World} {p : Option Addr} {hs : List Tp.H} (h : PtR lo hi w p hs) {g k : Nat} (hg : g < lo ∨ hi ≤ g) (u : Value) : PtR lo hi (w.setCell ⟨g, k, none⟩ u) p hs :=
  ⟨by rw [World.size_setCell]; exact h.le, fun W h1 h2 => h.all W h1 fun j h3 h4 => by rw [h2 j h3 h4, Below.heap_setCell _ _ _ _ (by dsimp only; omega)]⟩
theorem PtR.self {lo hi : Nat} {w : World} {p : Option Addr} {hs : List Tp.H} (h : PtR lo hi w p hs) : Ptc w p hs := h.all w h.le fun _ _ _ => rfl
theorem ptR_of {base : Nat} {w : World} {p : Option Addr} {hs : List Tp.H} (h : PtAt base w p hs) : PtR base w.heap.size w p hs := ⟨Nat.le_refl _, h⟩
structure Xs (W0 : World) (gp : Nat) (p : Option Addr) (b2 b3 b5 : Bool) (g2 g3 g5 : Nat) (w : World) : Prop where
  u : Below W0.heap.size W0 w
  c : xS gp p w
  z2 : b2 = true → One w g2 (.slice none 0 0) ∧ W0.heap.size ≤ g2
  z3 : b3 = true → One w g3 (.slice none 0 0) ∧ W0.heap.size ≤ g3
  z5 : b5 = true → Flt w g5 0 0 ∧ W0.heap.size ≤ g5
  n23 : b2 = true → b3 = true → g2 ≠ g3
  n25 : b2 = true → b5 = true → g2 ≠ g5
  n35 : b3 = true → b5 = true → g3 ≠ g5
section
variable {W0 : World} {gp : Nat} {p : Option Addr} {b2 b3 b5 : Bool} {g2 g3 g5 : Nat} {w : World}
theorem Xs.up {w' : World} (h : Xs W0 gp p b2 b3 b5 g2 g3 g5 w) (hb : Below w.heap.size w w') : Xs W0 gp p b2 b3 b5 g2 g3 g5 w' :=
  ⟨up_call h.u hb, (hb.cell (p := ⟨gp, 0, none⟩) (cell_block_lt h.c)).trans h.c, fun e => ⟨(h.z2 e).1.up hb, (h.z2 e).2⟩, fun e => ⟨(h.z3 e).1.up hb, (h.z3 e).2⟩, fun e => ⟨(h.z5 e).1.up hb, (h.z5 e).2⟩, h.n23, h.n25, h.n35⟩
theorem Xs.al2 (h : Xs W0 gp p false b3 b5 g2 g3 g5 w) (t : TypeId) : Xs W0 gp p true b3 b5 w.heap.size g3 g5 (w.alloc (.cells #[.slice none 0 0] t (0, 0))) := by
  have k := h.up (up_alloc (Below.refl _ _) (.cells #[.slice none 0 0] t (0, 0)))
  exact ⟨k.u, k.c, fun _ => ⟨One.new w _ t _ rfl, h.u.size⟩, k.z3, k.z5, fun _ e => Nat.ne_of_gt (h.z3 e).1.lt, fun _ e => Nat.ne_of_gt (h.z5 e).1.lt, h.n35⟩
theorem Xs.al3 (h : Xs W0 gp p b2 false b5 g2 g3 g5 w) (t : TypeId) : Xs W0 gp p b2 true b5 g2 w.heap.size g5 (w.alloc (.cells #[.slice none 0 0] t (0, 0))) := by
  have k := h.up (up_alloc (Below.refl _ _) (.cells #[.slice none 0 0] t (0, 0)))
  exact ⟨k.u, k.c, k.z2, fun _ => ⟨One.new w _ t _ rfl, h.u.size⟩, k.z5, fun e _ => Nat.ne_of_lt (h.z2 e).1.lt, h.n25, fun _ e => Nat.ne_of_gt (h.z5 e).1.lt⟩
theorem Xs.al5 (h : Xs W0 gp p b2 b3 false g2 g3 g5 w) (t : TypeId) : Xs W0 gp p b2 b3 true g2 g3 w.heap.size (w.alloc (.cells #[.int .i64 0, .int .i64 0] t (0, 0))) := by
  have k := h.up (up_alloc (Below.refl _ _) (.cells #[.int .i64 0, .int .i64 0] t (0, 0)))
  exact ⟨k.u, k.c, k.z2, k.z3, fun _ => ⟨Flt.new w 0 0 t, h.u.size⟩, h.n23, fun e _ => Nat.ne_of_lt (h.z2 e).1.lt, fun e _ => Nat.ne_of_lt (h.z3 e).1.lt⟩
end
def cnt (b2 b3 b5 : Bool) : Nat := (bif b2 then 0 else 1) + (bif b3 then 0 else 1) + (bif b5 then 0 else 1)
/-- what is owed behind the region -/
def xEnd (Q : Exit → Act → World → Prop) (W0 : World) (gp : Nat) (p : Option Addr) (s6 s7 : Value) : Prop :=
  ∀ (w' : World) (g2 g3 g5 : Nat) (s10 s11 : Value) (pa : Option Addr) (ca : Nat) (pb : Option Addr) (cb : Nat), Below W0.heap.size W0 w' → xS gp p w' → One w' g2 (.slice pa 1 ca) → One w' g3 (.slice pb 1 cb) → Flt w' g5 0 0 → Ptc w' pa xR → Ptc w' pb xP →
    Q .normal (xF gp s6 s7 (.pointer (some ⟨g2, 0, none⟩)) (.pointer (some ⟨g3, 0, none⟩)) (.bool true) (.pointer (some ⟨g5, 0, none⟩)) (.tuple (xT pa ca pb cb)) (.agg #[.slice p 1 1]) s10 s11 (.tuple (xT pa ca pb cb)) (.agg #[.slice pa 1 ca]) (.agg #[.slice pb 1 cb]) (.bool true) (.agg #[.int .i64 0, .int .i64 0])) w'
theorem One.other {w : World} {g g' : Nat} {v : Value} (h : One w g v) (hg : g' ≠ g) (k : Nat) (u : Value) : One (w.setCell ⟨g', k, none⟩ u) g v :=
  ⟨by rw [World.cell?_setCell_other (h := fun e => hg (by cases e; rfl)), h.c], by rw [World.frozen?_setCell, h.f]⟩
theorem One.put {w : World} {g : Nat} {v : Value} (h : One w g v) (u : Value) : One (w.setCell ⟨g, 0, none⟩ u) g u := ⟨World.cell?_setCell_same _ _ _ h.c, by rw [World.frozen?_setCell, h.f]⟩
set_option maxRecDepth 100000 in
set_option maxHeartbeats 4000000 in
theorem xH3 {Q : Exit → Act → World → Prop} {W0 : World} {gp : Nat} {p : Option Addr} {s6 s7 : Value} (hgp : gp < W0.heap.size) (_hP : Ptc W0 p xP) (hQ : ∀ (c : _) (a : Act) (d : Option Tmp) (v : Value) (w : World), Q (.panic c) (a.put d v) w → Q (.panic c) a w) (hE : xEnd Q W0 gp p s6 s7) :
    ∀ (n : Nat) (b2 b3 b5 : Bool) (g2 g3 g5 : Nat) (s10 s11 : Value) (pa : Option Addr) (ca : Nat) (pb : Option Addr) (cb : Nat) (lo hi : Nat) (w : World), cnt b2 b3 b5 = n → Xs W0 gp p b2 b3 b5 g2 g3 g5 w → PtR lo hi w pa xR → PtR lo hi w pb xP → (b2 = true → g2 < lo ∨ hi ≤ g2) → (b3 = true → g3 < lo ∨ hi ≤ g3) → (b5 = true → g5 < lo ∨ hi ≤ g5) → 
      wpAnyH Try.prog .any xOps Q (xS gp p) (n + 4) #[true, true, true, true, true, true, true, true, true, b2, b3, b5, false, false, false, false] (xF gp s6 s7 (pv b2 g2) (pv b3 g3) undef (pv b5 g5) (.tuple (xT pa ca pb cb)) (.agg #[.slice p 1 1]) s10 s11 (.tuple (xT pa ca pb cb)) (.agg #[.slice pa 1 ca]) (.agg #[.slice pb 1 cb]) (.bool true) (.agg #[.int .i64 0, .int .i64 0])) w := by
  intro n
  induction n with
  | zero =>
    intro b2 b3 b5 g2 g3 g5 s10 s11 pa ca pb cb lo hi w hn hX hA hB r2 r3 r5
    cases b2 <;> cases b3 <;> cases b5 <;> first | (exfalso; revert hn; decide) | skip
    obtain ⟨z2, l2⟩ := hX.z2 rfl
    obtain ⟨z3, l3⟩ := hX.z3 rfl
    obtain ⟨z5, l5⟩ := hX.z5 rfl
    have n23 := hX.n23 rfl rfl
    have n25 := hX.n25 rfl rfl
    have n35 := hX.n35 rfl rfl
    have hpb := cell_block_lt hX.c
    have hgl : gp < W0.heap.size := hgp
    refine wpAnyH_all (rs := [12]) (by kernel_rfl) (by simp) ?_
    intro i hmem
    obtain rfl := List.mem_singleton.1 hmem
    obtain ⟨o12, ho12, hop12, hd12, hg12⟩ := xo12
    refine wpOp_storeP ho12 2 13 hop12 hd12 hg12 g2 _ pa 1 ca rfl rfl z2 ?_
    have c12 : xS gp p (w.setCell ⟨g2, 0, none⟩ (.slice pa 1 ca)) := by unfold xS; rw [World.cell?_setCell_other (h := fun e => by cases e <;> omega)]; exact hX.c
    refine ⟨c12, ?_⟩
    refine wpAnyH_all (rs := [13]) (by kernel_rfl) (by simp) ?_
    intro i hmem
    obtain rfl := List.mem_singleton.1 hmem
    obtain ⟨o13, ho13, hop13, hd13, hg13⟩ := xo13
    refine wpOp_storeP ho13 3 14 hop13 hd13 hg13 g3 _ pb 1 cb rfl rfl (z3.other n23 0 _) ?_
    have c13 : xS gp p ((w.setCell ⟨g2, 0, none⟩ (.slice pa 1 ca)).setCell ⟨g3, 0, none⟩ (.slice pb 1 cb)) := by unfold xS; rw [World.cell?_setCell_other (h := fun e => by cases e <;> omega)]; exact c12
    refine ⟨c13, ?_⟩
    obtain ⟨o14, ho14, hop14, hd14, hg14⟩ := xo14
    refine wpAnyH_take ho14 (by kernel_rfl) (by kernel_rfl) (by kernel_rfl) (fun c a w => hQ c a _ _ w) (yl_tmp _ 15 _ (.inr hop14) hg14 rfl) c13 ?_
    rw [hd14]
    refine wpAnyH_all (rs := [15]) (by kernel_rfl) (by simp) ?_
    intro i hmem
    obtain rfl := List.mem_singleton.1 hmem
    obtain ⟨o15, ho15, hop15, hd15, hg15⟩ := xo15
    refine wpOp_storeF ho15 5 16 hop15 hd15 hg15 g5 0 0 0 0 rfl rfl ((z5.put n25 _).put n35 _) ?_
    have c15 : xS gp p ((((w.setCell ⟨g2, 0, none⟩ (.slice pa 1 ca)).setCell ⟨g3, 0, none⟩ (.slice pb 1 cb)).setCell ⟨g5, 0, none⟩ (.int .i64 0)).setCell ⟨g5, 1, none⟩ (.int .i64 0)) := by unfold xS; rw [World.cell?_setCell_other (h := fun e => by cases e <;> omega), World.cell?_setCell_other (h := fun e => by cases e <;> omega)]; exact c13
    refine ⟨c15, ?_⟩
    refine wpAnyH_done (by kernel_rfl) ?_ _
    exact hE _ g2 g3 g5 s10 s11 pa ca pb cb ((((hX.u.setCell l2 _).setCell l3 _).setCell l5 _).setCell l5 _) c15 ((((z2.put _).other (Ne.symm n23) 0 _).other (Ne.symm n25) 0 _).other (Ne.symm n25) 1 _) ((((z3.other n23 0 _).put _).other (Ne.symm n35) 0 _).other (Ne.symm n35) 1 _) (((z5.put n25 _).put n35 _).set2 0 0) ((((hA.set (r2 rfl) _).set (r3 rfl) _).set (r5 rfl) _).set (r5 rfl) _).self ((((hB.set (r2 rfl) _).set (r3 rfl) _).set (r5 rfl) _).set (r5 rfl) _).self
  | succ n ih =>
    intro b2 b3 b5 g2 g3 g5 s10 s11 pa ca pb cb lo hi w hn hX hA hB r2 r3 r5
    cases b2 <;> cases b3 <;> cases b5
    · refine wpAnyH_all (rs := [9, 10, 11]) (by kernel_rfl) (by simp) ?_
      intro i hmem
      simp only [List.mem_cons, List.not_mem_nil, or_false] at hmem
      rcases hmem with rfl | rfl | rfl
      · obtain ⟨o, ho, hop, hd, hg⟩ := xo9
        refine wpOp_allocP ho hop hg ?_
        rw [hd]
        have BA := up_alloc (Below.refl w.heap.size w) (.cells #[.slice none 0 0] 41 (0, 0))
        exact ⟨(hX.al2 _).c, ih true false false w.heap.size g3 g5 s10 s11 pa ca pb cb lo hi _ (by have := hn; unfold cnt at this ⊢; simp only [cond_true, cond_false] at this ⊢; omega) (hX.al2 _) (hA.up BA) (hB.up BA) (fun _ => .inr hA.le) r3 r5⟩
      · obtain ⟨o, ho, hop, hd, hg⟩ := xo10
        refine wpOp_allocP ho hop hg ?_
        rw [hd]
        have BA := up_alloc (Below.refl w.heap.size w) (.cells #[.slice none 0 0] 41 (0, 0))
        exact ⟨(hX.al3 _).c, ih false true false g2 w.heap.size g5 s10 s11 pa ca pb cb lo hi _ (by have := hn; unfold cnt at this ⊢; simp only [cond_true, cond_false] at this ⊢; omega) (hX.al3 _) (hA.up BA) (hB.up BA) r2 (fun _ => .inr hA.le) r5⟩
      · obtain ⟨o, ho, hop, hd, hg⟩ := xo11
        refine wpOp_allocF ho hop hg ?_
        rw [hd]
        have BA := up_alloc (Below.refl w.heap.size w) (.cells #[.int .i64 0, .int .i64 0] 25 (0, 0))
        exact ⟨(hX.al5 _).c, ih false false true g2 g3 w.heap.size s10 s11 pa ca pb cb lo hi _ (by have := hn; unfold cnt at this ⊢; simp only [cond_true, cond_false] at this ⊢; omega) (hX.al5 _) (hA.up BA) (hB.up BA) r2 r3 (fun _ => .inr hA.le)⟩
    · refine wpAnyH_all (rs := [9, 10]) (by kernel_rfl) (by simp) ?_
      intro i hmem
      simp only [List.mem_cons, List.not_mem_nil, or_false] at hmem
      rcases hmem with rfl | rfl
      · obtain ⟨o, ho, hop, hd, hg⟩ := xo9
        refine wpOp_allocP ho hop hg ?_
        rw [hd]
        have BA := up_alloc (Below.refl w.heap.size w) (.cells #[.slice none 0 0] 41 (0, 0))
        exact ⟨(hX.al2 _).c, ih true false true w.heap.size g3 g5 s10 s11 pa ca pb cb lo hi _ (by have := hn; unfold cnt at this ⊢; simp only [cond_true, cond_false] at this ⊢; omega) (hX.al2 _) (hA.up BA) (hB.up BA) (fun _ => .inr hA.le) r3 r5⟩
      · obtain ⟨o, ho, hop, hd, hg⟩ := xo10
        refine wpOp_allocP ho hop hg ?_
        rw [hd]
        have BA := up_alloc (Below.refl w.heap.size w) (.cells #[.slice none 0 0] 41 (0, 0))
        exact ⟨(hX.al3 _).c, ih false true true g2 w.heap.size g5 s10 s11 pa ca pb cb lo hi _ (by have := hn; unfold cnt at this ⊢; simp only [cond_true, cond_false] at this ⊢; omega) (hX.al3 _) (hA.up BA) (hB.up BA) r2 (fun _ => .inr hA.le) r5⟩
    · refine wpAnyH_all (rs := [9, 11]) (by kernel_rfl) (by simp) ?_
      intro i hmem
      simp only [List.mem_cons, List.not_mem_nil, or_false] at hmem
      rcases hmem with rfl | rfl
      · obtain ⟨o, ho, hop, hd, hg⟩ := xo9
        refine wpOp_allocP ho hop hg ?_
        rw [hd]
        have BA := up_alloc (Below.refl w.heap.size w) (.cells #[.slice none 0 0] 41 (0, 0))
        exact ⟨(hX.al2 _).c, ih true true false w.heap.size g3 g5 s10 s11 pa ca pb cb lo hi _ (by have := hn; unfold cnt at this ⊢; simp only [cond_true, cond_false] at this ⊢; omega) (hX.al2 _) (hA.up BA) (hB.up BA) (fun _ => .inr hA.le) r3 r5⟩
      · obtain ⟨o, ho, hop, hd, hg⟩ := xo11
        refine wpOp_allocF ho hop hg ?_
        rw [hd]
        have BA := up_alloc (Below.refl w.heap.size w) (.cells #[.int .i64 0, .int .i64 0] 25 (0, 0))
        exact ⟨(hX.al5 _).c, ih false true true g2 g3 w.heap.size s10 s11 pa ca pb cb lo hi _ (by have := hn; unfold cnt at this ⊢; simp only [cond_true, cond_false] at this ⊢; omega) (hX.al5 _) (hA.up BA) (hB.up BA) r2 r3 (fun _ => .inr hA.le)⟩
    · refine wpAnyH_all (rs := [9]) (by kernel_rfl) (by simp) ?_
      intro i hmem
      obtain rfl := List.mem_singleton.1 hmem
      · obtain ⟨o, ho, hop, hd, hg⟩ := xo9
        refine wpOp_allocP ho hop hg ?_
        rw [hd]
        have BA := up_alloc (Below.refl w.heap.size w) (.cells #[.slice none 0 0] 41 (0, 0))
        exact ⟨(hX.al2 _).c, ih true true true w.heap.size g3 g5 s10 s11 pa ca pb cb lo hi _ (by have := hn; unfold cnt at this ⊢; simp only [cond_true, cond_false] at this ⊢; omega) (hX.al2 _) (hA.up BA) (hB.up BA) (fun _ => .inr hA.le) r3 r5⟩
    · refine wpAnyH_all (rs := [10, 11]) (by kernel_rfl) (by simp) ?_
      intro i hmem
      simp only [List.mem_cons, List.not_mem_nil, or_false] at hmem
      rcases hmem with rfl | rfl
      · obtain ⟨o, ho, hop, hd, hg⟩ := xo10
        refine wpOp_allocP ho hop hg ?_
        rw [hd]
        have BA := up_alloc (Below.refl w.heap.size w) (.cells #[.slice none 0 0] 41 (0, 0))
        exact ⟨(hX.al3 _).c, ih true true false g2 w.heap.size g5 s10 s11 pa ca pb cb lo hi _ (by have := hn; unfold cnt at this ⊢; simp only [cond_true, cond_false] at this ⊢; omega) (hX.al3 _) (hA.up BA) (hB.up BA) r2 (fun _ => .inr hA.le) r5⟩
      · obtain ⟨o, ho, hop, hd, hg⟩ := xo11
        refine wpOp_allocF ho hop hg ?_
        rw [hd]
        have BA := up_alloc (Below.refl w.heap.size w) (.cells #[.int .i64 0, .int .i64 0] 25 (0, 0))
        exact ⟨(hX.al5 _).c, ih true false true g2 g3 w.heap.size s10 s11 pa ca pb cb lo hi _ (by have := hn; unfold cnt at this ⊢; simp only [cond_true, cond_false] at this ⊢; omega) (hX.al5 _) (hA.up BA) (hB.up BA) r2 r3 (fun _ => .inr hA.le)⟩
    · refine wpAnyH_all (rs := [10]) (by kernel_rfl) (by simp) ?_
      intro i hmem
      obtain rfl := List.mem_singleton.1 hmem
      · obtain ⟨o, ho, hop, hd, hg⟩ := xo10
        refine wpOp_allocP ho hop hg ?_
        rw [hd]
        have BA := up_alloc (Below.refl w.heap.size w) (.cells #[.slice none 0 0] 41 (0, 0))
        exact ⟨(hX.al3 _).c, ih true true true g2 w.heap.size g5 s10 s11 pa ca pb cb lo hi _ (by have := hn; unfold cnt at this ⊢; simp only [cond_true, cond_false] at this ⊢; omega) (hX.al3 _) (hA.up BA) (hB.up BA) r2 (fun _ => .inr hA.le) r5⟩
    · refine wpAnyH_all (rs := [11]) (by kernel_rfl) (by simp) ?_
      intro i hmem
      obtain rfl := List.mem_singleton.1 hmem
      · obtain ⟨o, ho, hop, hd, hg⟩ := xo11
        refine wpOp_allocF ho hop hg ?_
        rw [hd]
        have BA := up_alloc (Below.refl w.heap.size w) (.cells #[.int .i64 0, .int .i64 0] 25 (0, 0))
        exact ⟨(hX.al5 _).c, ih true true true g2 g3 w.heap.size s10 s11 pa ca pb cb lo hi _ (by have := hn; unfold cnt at this ⊢; simp only [cond_true, cond_false] at this ⊢; omega) (hX.al5 _) (hA.up BA) (hB.up BA) r2 r3 (fun _ => .inr hA.le)⟩
    · cases hn
set_option maxRecDepth 100000 in
set_option maxHeartbeats 4000000 in
theorem xH2 {Q : Exit → Act → World → Prop} {W0 : World} {gp : Nat} {p : Option Addr} {s6 s7 : Value} (hgp : gp < W0.heap.size) (hP : Ptc W0 p xP) (hQ : ∀ (c : _) (a : Act) (d : Option Tmp) (v : Value) (w : World), Q (.panic c) (a.put d v) w → Q (.panic c) a w) (hE : xEnd Q W0 gp p s6 s7) (CC : ∀ (w : World) (p q : Option Addr), Ptc w p xP → Ptc w q xQ → Calls Try.prog 37 #[.agg #[.slice p 1 1], .agg #[.slice q 1 1]] w fun e w' => ∃ pa ca pb cb, e = .returned (.tuple (xT pa ca pb cb)) ∧ PtAt w.heap.size w' pa xR ∧ PtAt w.heap.size w' pb xP ∧ Below w.heap.size w w') :
    ∀ (n : Nat) (b2 b3 b5 : Bool) (g2 g3 g5 : Nat) (s10 : Value) (q : Option Addr) (w : World), cnt b2 b3 b5 = n → Xs W0 gp p b2 b3 b5 g2 g3 g5 w → Ptc w q xQ → 
      wpAnyH Try.prog .any xOps Q (xS gp p) (n + 10) #[true, true, true, false, false, false, false, false, false, b2, b3, b5, false, false, false, false] (xF gp s6 s7 (pv b2 g2) (pv b3 g3) undef (pv b5 g5) undef (.agg #[.slice p 1 1]) s10 (.agg #[.slice q 1 1]) undef undef undef undef undef) w := by
  intro n
  induction n with
  | zero =>
    intro b2 b3 b5 g2 g3 g5 s10 q w hn hX hq
    cases b2 <;> cases b3 <;> cases b5 <;> first | (exfalso; revert hn; decide) | skip
    refine wpAnyH_all (rs := [3]) (by kernel_rfl) (by simp) ?_
    intro i hmem
    obtain rfl := List.mem_singleton.1 hmem
    obtain ⟨o, ho, hop, hd, hg⟩ := xo3
    refine wpOp_call ho 37 _ _ #[.agg #[.slice p 1 1], .agg #[.slice q 1 1]] hop hg (by simp only [List.map_toArray, List.map_cons, List.map_nil]; rfl) ?_ (enters_of Try.func37 (by kernel_rfl) rfl)
    refine (CC w p q (hP.mono hX.u) hq).mono ?_
    rintro e w' ⟨pa, ca, pb, cb, rfl, hpa, hpb, BA⟩
    refine ⟨_, rfl, ?_⟩
    rw [hd]
    have hY := hX.up BA
    refine ⟨hY.c, ?_⟩
    obtain ⟨o4, ho4, hop4, hd4, hg4⟩ := xo4
    refine wpAnyH_take ho4 (by kernel_rfl) (by kernel_rfl) (by kernel_rfl) (fun c a w => hQ c a _ _ w) (yl_tmp _ 12 _ (.inl hop4) hg4 rfl) hY.c ?_
    rw [hd4]
    obtain ⟨o5, ho5, hop5, hd5, hg5⟩ := xo5
    refine wpAnyH_take ho5 (by kernel_rfl) (by kernel_rfl) (by kernel_rfl) (fun c a w => hQ c a _ _ w) (yl_extract _ 8 0 (xT pa ca pb cb) _ hop5 hg5 rfl rfl) hY.c ?_
    rw [hd5]
    obtain ⟨o6, ho6, hop6, hd6, hg6⟩ := xo6
    refine wpAnyH_take ho6 (by kernel_rfl) (by kernel_rfl) (by kernel_rfl) (fun c a w => hQ c a _ _ w) (yl_extract _ 8 1 (xT pa ca pb cb) _ hop6 hg6 rfl rfl) hY.c ?_
    rw [hd6]
    obtain ⟨o7, ho7, hop7, hd7, hg7⟩ := xo7
    refine wpAnyH_take ho7 (by kernel_rfl) (by kernel_rfl) (by kernel_rfl) (fun c a w => hQ c a _ _ w) (yl_extract _ 8 2 (xT pa ca pb cb) _ hop7 hg7 rfl rfl) hY.c ?_
    rw [hd7]
    obtain ⟨o8, ho8, hop8, hd8, hg8⟩ := xo8
    refine wpAnyH_take ho8 (by kernel_rfl) (by kernel_rfl) (by kernel_rfl) (fun c a w => hQ c a _ _ w) (yl_extract _ 8 3 (xT pa ca pb cb) _ hop8 hg8 rfl rfl) hY.c ?_
    rw [hd8]
    exact xH3 hgp hP hQ hE 0 true true true g2 g3 g5 _ _ pa ca pb cb w.heap.size w'.heap.size _ hn hY (ptR_of hpa) (ptR_of hpb) (fun _ => .inl (hX.z2 rfl).1.lt) (fun _ => .inl (hX.z3 rfl).1.lt) (fun _ => .inl (hX.z5 rfl).1.lt)
  | succ n ih =>
    intro b2 b3 b5 g2 g3 g5 s10 q w hn hX hq
    cases b2 <;> cases b3 <;> cases b5
    · refine wpAnyH_all (rs := [3, 9, 10, 11]) (by kernel_rfl) (by simp) ?_
      intro i hmem
      simp only [List.mem_cons, List.not_mem_nil, or_false] at hmem
      rcases hmem with rfl | rfl | rfl | rfl
      · obtain ⟨o, ho, hop, hd, hg⟩ := xo3
        refine wpOp_call ho 37 _ _ #[.agg #[.slice p 1 1], .agg #[.slice q 1 1]] hop hg (by simp only [List.map_toArray, List.map_cons, List.map_nil]; rfl) ?_ (enters_of Try.func37 (by kernel_rfl) rfl)
        refine (CC w p q (hP.mono hX.u) hq).mono ?_
        rintro e w' ⟨pa, ca, pb, cb, rfl, hpa, hpb, BA⟩
        refine ⟨_, rfl, ?_⟩
        rw [hd]
        have hY := hX.up BA
        refine ⟨hY.c, ?_⟩
        obtain ⟨o4, ho4, hop4, hd4, hg4⟩ := xo4
        refine wpAnyH_take ho4 (by kernel_rfl) (by kernel_rfl) (by kernel_rfl) (fun c a w => hQ c a _ _ w) (yl_tmp _ 12 _ (.inl hop4) hg4 rfl) hY.c ?_
        rw [hd4]
        obtain ⟨o5, ho5, hop5, hd5, hg5⟩ := xo5
        refine wpAnyH_take ho5 (by kernel_rfl) (by kernel_rfl) (by kernel_rfl) (fun c a w => hQ c a _ _ w) (yl_extract _ 8 0 (xT pa ca pb cb) _ hop5 hg5 rfl rfl) hY.c ?_
        rw [hd5]
        obtain ⟨o6, ho6, hop6, hd6, hg6⟩ := xo6
        refine wpAnyH_take ho6 (by kernel_rfl) (by kernel_rfl) (by kernel_rfl) (fun c a w => hQ c a _ _ w) (yl_extract _ 8 1 (xT pa ca pb cb) _ hop6 hg6 rfl rfl) hY.c ?_
        rw [hd6]
        obtain ⟨o7, ho7, hop7, hd7, hg7⟩ := xo7
        refine wpAnyH_take ho7 (by kernel_rfl) (by kernel_rfl) (by kernel_rfl) (fun c a w => hQ c a _ _ w) (yl_extract _ 8 2 (xT pa ca pb cb) _ hop7 hg7 rfl rfl) hY.c ?_
        rw [hd7]
        obtain ⟨o8, ho8, hop8, hd8, hg8⟩ := xo8
        refine wpAnyH_take ho8 (by kernel_rfl) (by kernel_rfl) (by kernel_rfl) (fun c a w => hQ c a _ _ w) (yl_extract _ 8 3 (xT pa ca pb cb) _ hop8 hg8 rfl rfl) hY.c ?_
        rw [hd8]
        exact xH3 hgp hP hQ hE (n + 1) false false false g2 g3 g5 _ _ pa ca pb cb w.heap.size w'.heap.size _ hn hY (ptR_of hpa) (ptR_of hpb) (fun e => by cases e) (fun e => by cases e) (fun e => by cases e)
      · obtain ⟨o, ho, hop, hd, hg⟩ := xo9
        refine wpOp_allocP ho hop hg ?_
        rw [hd]
        have BA := up_alloc (Below.refl w.heap.size w) (.cells #[.slice none 0 0] 41 (0, 0))
        exact ⟨(hX.al2 _).c, ih true false false w.heap.size g3 g5 s10 q _ (by have := hn; unfold cnt at this ⊢; simp only [cond_true, cond_false] at this ⊢; omega) (hX.al2 _) (hq.mono BA)⟩
      · obtain ⟨o, ho, hop, hd, hg⟩ := xo10
        refine wpOp_allocP ho hop hg ?_
        rw [hd]
        have BA := up_alloc (Below.refl w.heap.size w) (.cells #[.slice none 0 0] 41 (0, 0))
        exact ⟨(hX.al3 _).c, ih false true false g2 w.heap.size g5 s10 q _ (by have := hn; unfold cnt at this ⊢; simp only [cond_true, cond_false] at this ⊢; omega) (hX.al3 _) (hq.mono BA)⟩
      · obtain ⟨o, ho, hop, hd, hg⟩ := xo11
        refine wpOp_allocF ho hop hg ?_
        rw [hd]
        have BA := up_alloc (Below.refl w.heap.size w) (.cells #[.int .i64 0, .int .i64 0] 25 (0, 0))
        exact ⟨(hX.al5 _).c, ih false false true g2 g3 w.heap.size s10 q _ (by have := hn; unfold cnt at this ⊢; simp only [cond_true, cond_false] at this ⊢; omega) (hX.al5 _) (hq.mono BA)⟩
    · refine wpAnyH_all (rs := [3, 9, 10]) (by kernel_rfl) (by simp) ?_
      intro i hmem
      simp only [List.mem_cons, List.not_mem_nil, or_false] at hmem
      rcases hmem with rfl | rfl | rfl
      · obtain ⟨o, ho, hop, hd, hg⟩ := xo3
        refine wpOp_call ho 37 _ _ #[.agg #[.slice p 1 1], .agg #[.slice q 1 1]] hop hg (by simp only [List.map_toArray, List.map_cons, List.map_nil]; rfl) ?_ (enters_of Try.func37 (by kernel_rfl) rfl)
        refine (CC w p q (hP.mono hX.u) hq).mono ?_
        rintro e w' ⟨pa, ca, pb, cb, rfl, hpa, hpb, BA⟩
        refine ⟨_, rfl, ?_⟩
        rw [hd]
        have hY := hX.up BA
        refine ⟨hY.c, ?_⟩
        obtain ⟨o4, ho4, hop4, hd4, hg4⟩ := xo4
        refine wpAnyH_take ho4 (by kernel_rfl) (by kernel_rfl) (by kernel_rfl) (fun c a w => hQ c a _ _ w) (yl_tmp _ 12 _ (.inl hop4) hg4 rfl) hY.c ?_
        rw [hd4]
        obtain ⟨o5, ho5, hop5, hd5, hg5⟩ := xo5
        refine wpAnyH_take ho5 (by kernel_rfl) (by kernel_rfl) (by kernel_rfl) (fun c a w => hQ c a _ _ w) (yl_extract _ 8 0 (xT pa ca pb cb) _ hop5 hg5 rfl rfl) hY.c ?_
        rw [hd5]
        obtain ⟨o6, ho6, hop6, hd6, hg6⟩ := xo6
        refine wpAnyH_take ho6 (by kernel_rfl) (by kernel_rfl) (by kernel_rfl) (fun c a w => hQ c a _ _ w) (yl_extract _ 8 1 (xT pa ca pb cb) _ hop6 hg6 rfl rfl) hY.c ?_
        rw [hd6]
        obtain ⟨o7, ho7, hop7, hd7, hg7⟩ := xo7
        refine wpAnyH_take ho7 (by kernel_rfl) (by kernel_rfl) (by kernel_rfl) (fun c a w => hQ c a _ _ w) (yl_extract _ 8 2 (xT pa ca pb cb) _ hop7 hg7 rfl rfl) hY.c ?_
        rw [hd7]
        obtain ⟨o8, ho8, hop8, hd8, hg8⟩ := xo8
        refine wpAnyH_take ho8 (by kernel_rfl) (by kernel_rfl) (by kernel_rfl) (fun c a w => hQ c a _ _ w) (yl_extract _ 8 3 (xT pa ca pb cb) _ hop8 hg8 rfl rfl) hY.c ?_
        rw [hd8]
        exact xH3 hgp hP hQ hE (n + 1) false false true g2 g3 g5 _ _ pa ca pb cb w.heap.size w'.heap.size _ hn hY (ptR_of hpa) (ptR_of hpb) (fun e => by cases e) (fun e => by cases e) (fun _ => .inl (hX.z5 rfl).1.lt)
      · obtain ⟨o, ho, hop, hd, hg⟩ := xo9
        refine wpOp_allocP ho hop hg ?_
        rw [hd]
        have BA := up_alloc (Below.refl w.heap.size w) (.cells #[.slice none 0 0] 41 (0, 0))
        exact ⟨(hX.al2 _).c, ih true false true w.heap.size g3 g5 s10 q _ (by have := hn; unfold cnt at this ⊢; simp only [cond_true, cond_false] at this ⊢; omega) (hX.al2 _) (hq.mono BA)⟩
      · obtain ⟨o, ho, hop, hd, hg⟩ := xo10
        refine wpOp_allocP ho hop hg ?_
        rw [hd]
        have BA := up_alloc (Below.refl w.heap.size w) (.cells #[.slice none 0 0] 41 (0, 0))
        exact ⟨(hX.al3 _).c, ih false true true g2 w.heap.size g5 s10 q _ (by have := hn; unfold cnt at this ⊢; simp only [cond_true, cond_false] at this ⊢; omega) (hX.al3 _) (hq.mono BA)⟩
    · refine wpAnyH_all (rs := [3, 9, 11]) (by kernel_rfl) (by simp) ?_
      intro i hmem
      simp only [List.mem_cons, List.not_mem_nil, or_false] at hmem
      rcases hmem with rfl | rfl | rfl
      · obtain ⟨o, ho, hop, hd, hg⟩ := xo3
        refine wpOp_call ho 37 _ _ #[.agg #[.slice p 1 1], .agg #[.slice q 1 1]] hop hg (by simp only [List.map_toArray, List.map_cons, List.map_nil]; rfl) ?_ (enters_of Try.func37 (by kernel_rfl) rfl)
        refine (CC w p q (hP.mono hX.u) hq).mono ?_
        rintro e w' ⟨pa, ca, pb, cb, rfl, hpa, hpb, BA⟩
        refine ⟨_, rfl, ?_⟩
        rw [hd]
        have hY := hX.up BA
        refine ⟨hY.c, ?_⟩
        obtain ⟨o4, ho4, hop4, hd4, hg4⟩ := xo4
        refine wpAnyH_take ho4 (by kernel_rfl) (by kernel_rfl) (by kernel_rfl) (fun c a w => hQ c a _ _ w) (yl_tmp _ 12 _ (.inl hop4) hg4 rfl) hY.c ?_
        rw [hd4]
        obtain ⟨o5, ho5, hop5, hd5, hg5⟩ := xo5
        refine wpAnyH_take ho5 (by kernel_rfl) (by kernel_rfl) (by kernel_rfl) (fun c a w => hQ c a _ _ w) (yl_extract _ 8 0 (xT pa ca pb cb) _ hop5 hg5 rfl rfl) hY.c ?_
        rw [hd5]
        obtain ⟨o6, ho6, hop6, hd6, hg6⟩ := xo6
        refine wpAnyH_take ho6 (by kernel_rfl) (by kernel_rfl) (by kernel_rfl) (fun c a w => hQ c a _ _ w) (yl_extract _ 8 1 (xT pa ca pb cb) _ hop6 hg6 rfl rfl) hY.c ?_
        rw [hd6]
        obtain ⟨o7, ho7, hop7, hd7, hg7⟩ := xo7
        refine wpAnyH_take ho7 (by kernel_rfl) (by kernel_rfl) (by kernel_rfl) (fun c a w => hQ c a _ _ w) (yl_extract _ 8 2 (xT pa ca pb cb) _ hop7 hg7 rfl rfl) hY.c ?_
        rw [hd7]
        obtain ⟨o8, ho8, hop8, hd8, hg8⟩ := xo8
        refine wpAnyH_take ho8 (by kernel_rfl) (by kernel_rfl) (by kernel_rfl) (fun c a w => hQ c a _ _ w) (yl_extract _ 8 3 (xT pa ca pb cb) _ hop8 hg8 rfl rfl) hY.c ?_
        rw [hd8]
        exact xH3 hgp hP hQ hE (n + 1) false true false g2 g3 g5 _ _ pa ca pb cb w.heap.size w'.heap.size _ hn hY (ptR_of hpa) (ptR_of hpb) (fun e => by cases e) (fun _ => .inl (hX.z3 rfl).1.lt) (fun e => by cases e)
      · obtain ⟨o, ho, hop, hd, hg⟩ := xo9
        refine wpOp_allocP ho hop hg ?_
        rw [hd]
        have BA := up_alloc (Below.refl w.heap.size w) (.cells #[.slice none 0 0] 41 (0, 0))
        exact ⟨(hX.al2 _).c, ih true true false w.heap.size g3 g5 s10 q _ (by have := hn; unfold cnt at this ⊢; simp only [cond_true, cond_false] at this ⊢; omega) (hX.al2 _) (hq.mono BA)⟩
      · obtain ⟨o, ho, hop, hd, hg⟩ := xo11
        refine wpOp_allocF ho hop hg ?_
        rw [hd]
        have BA := up_alloc (Below.refl w.heap.size w) (.cells #[.int .i64 0, .int .i64 0] 25 (0, 0))
        exact ⟨(hX.al5 _).c, ih false true true g2 g3 w.heap.size s10 q _ (by have := hn; unfold cnt at this ⊢; simp only [cond_true, cond_false] at this ⊢; omega) (hX.al5 _) (hq.mono BA)⟩
    · refine wpAnyH_all (rs := [3, 9]) (by kernel_rfl) (by simp) ?_
      intro i hmem
      simp only [List.mem_cons, List.not_mem_nil, or_false] at hmem
      rcases hmem with rfl | rfl
      · obtain ⟨o, ho, hop, hd, hg⟩ := xo3
        refine wpOp_call ho 37 _ _ #[.agg #[.slice p 1 1], .agg #[.slice q 1 1]] hop hg (by simp only [List.map_toArray, List.map_cons, List.map_nil]; rfl) ?_ (enters_of Try.func37 (by kernel_rfl) rfl)
        refine (CC w p q (hP.mono hX.u) hq).mono ?_
        rintro e w' ⟨pa, ca, pb, cb, rfl, hpa, hpb, BA⟩
        refine ⟨_, rfl, ?_⟩
        rw [hd]
        have hY := hX.up BA
        refine ⟨hY.c, ?_⟩
        obtain ⟨o4, ho4, hop4, hd4, hg4⟩ := xo4
        refine wpAnyH_take ho4 (by kernel_rfl) (by kernel_rfl) (by kernel_rfl) (fun c a w => hQ c a _ _ w) (yl_tmp _ 12 _ (.inl hop4) hg4 rfl) hY.c ?_
        rw [hd4]
        obtain ⟨o5, ho5, hop5, hd5, hg5⟩ := xo5
        refine wpAnyH_take ho5 (by kernel_rfl) (by kernel_rfl) (by kernel_rfl) (fun c a w => hQ c a _ _ w) (yl_extract _ 8 0 (xT pa ca pb cb) _ hop5 hg5 rfl rfl) hY.c ?_
        rw [hd5]
        obtain ⟨o6, ho6, hop6, hd6, hg6⟩ := xo6
        refine wpAnyH_take ho6 (by kernel_rfl) (by kernel_rfl) (by kernel_rfl) (fun c a w => hQ c a _ _ w) (yl_extract _ 8 1 (xT pa ca pb cb) _ hop6 hg6 rfl rfl) hY.c ?_
        rw [hd6]
        obtain ⟨o7, ho7, hop7, hd7, hg7⟩ := xo7
        refine wpAnyH_take ho7 (by kernel_rfl) (by kernel_rfl) (by kernel_rfl) (fun c a w => hQ c a _ _ w) (yl_extract _ 8 2 (xT pa ca pb cb) _ hop7 hg7 rfl rfl) hY.c ?_
        rw [hd7]
        obtain ⟨o8, ho8, hop8, hd8, hg8⟩ := xo8
        refine wpAnyH_take ho8 (by kernel_rfl) (by kernel_rfl) (by kernel_rfl) (fun c a w => hQ c a _ _ w) (yl_extract _ 8 3 (xT pa ca pb cb) _ hop8 hg8 rfl rfl) hY.c ?_
        rw [hd8]
        exact xH3 hgp hP hQ hE (n + 1) false true true g2 g3 g5 _ _ pa ca pb cb w.heap.size w'.heap.size _ hn hY (ptR_of hpa) (ptR_of hpb) (fun e => by cases e) (fun _ => .inl (hX.z3 rfl).1.lt) (fun _ => .inl (hX.z5 rfl).1.lt)
      · obtain ⟨o, ho, hop, hd, hg⟩ := xo9
        refine wpOp_allocP ho hop hg ?_
        rw [hd]
        have BA := up_alloc (Below.refl w.heap.size w) (.cells #[.slice none 0 0] 41 (0, 0))
        exact ⟨(hX.al2 _).c, ih true true true w.heap.size g3 g5 s10 q _ (by have := hn; unfold cnt at this ⊢; simp only [cond_true, cond_false] at this ⊢; omega) (hX.al2 _) (hq.mono BA)⟩
    · refine wpAnyH_all (rs := [3, 10, 11]) (by kernel_rfl) (by simp) ?_
      intro i hmem
      simp only [List.mem_cons, List.not_mem_nil, or_false] at hmem
      rcases hmem with rfl | rfl | rfl
      · obtain ⟨o, ho, hop, hd, hg⟩ := xo3
        refine wpOp_call ho 37 _ _ #[.agg #[.slice p 1 1], .agg #[.slice q 1 1]] hop hg (by simp only [List.map_toArray, List.map_cons, List.map_nil]; rfl) ?_ (enters_of Try.func37 (by kernel_rfl) rfl)
        refine (CC w p q (hP.mono hX.u) hq).mono ?_
        rintro e w' ⟨pa, ca, pb, cb, rfl, hpa, hpb, BA⟩
        refine ⟨_, rfl, ?_⟩
        rw [hd]
        have hY := hX.up BA
        refine ⟨hY.c, ?_⟩
        obtain ⟨o4, ho4, hop4, hd4, hg4⟩ := xo4
        refine wpAnyH_take ho4 (by kernel_rfl) (by kernel_rfl) (by kernel_rfl) (fun c a w => hQ c a _ _ w) (yl_tmp _ 12 _ (.inl hop4) hg4 rfl) hY.c ?_
        rw [hd4]
        obtain ⟨o5, ho5, hop5, hd5, hg5⟩ := xo5
        refine wpAnyH_take ho5 (by kernel_rfl) (by kernel_rfl) (by kernel_rfl) (fun c a w => hQ c a _ _ w) (yl_extract _ 8 0 (xT pa ca pb cb) _ hop5 hg5 rfl rfl) hY.c ?_
        rw [hd5]
        obtain ⟨o6, ho6, hop6, hd6, hg6⟩ := xo6
        refine wpAnyH_take ho6 (by kernel_rfl) (by kernel_rfl) (by kernel_rfl) (fun c a w => hQ c a _ _ w) (yl_extract _ 8 1 (xT pa ca pb cb) _ hop6 hg6 rfl rfl) hY.c ?_
        rw [hd6]
        obtain ⟨o7, ho7, hop7, hd7, hg7⟩ := xo7
        refine wpAnyH_take ho7 (by kernel_rfl) (by kernel_rfl) (by kernel_rfl) (fun c a w => hQ c a _ _ w) (yl_extract _ 8 2 (xT pa ca pb cb) _ hop7 hg7 rfl rfl) hY.c ?_
        rw [hd7]
        obtain ⟨o8, ho8, hop8, hd8, hg8⟩ := xo8
        refine wpAnyH_take ho8 (by kernel_rfl) (by kernel_rfl) (by kernel_rfl) (fun c a w => hQ c a _ _ w) (yl_extract _ 8 3 (xT pa ca pb cb) _ hop8 hg8 rfl rfl) hY.c ?_
        rw [hd8]
        exact xH3 hgp hP hQ hE (n + 1) true false false g2 g3 g5 _ _ pa ca pb cb w.heap.size w'.heap.size _ hn hY (ptR_of hpa) (ptR_of hpb) (fun _ => .inl (hX.z2 rfl).1.lt) (fun e => by cases e) (fun e => by cases e)
      · obtain ⟨o, ho, hop, hd, hg⟩ := xo10
        refine wpOp_allocP ho hop hg ?_
        rw [hd]
        have BA := up_alloc (Below.refl w.heap.size w) (.cells #[.slice none 0 0] 41 (0, 0))
        exact ⟨(hX.al3 _).c, ih true true false g2 w.heap.size g5 s10 q _ (by have := hn; unfold cnt at this ⊢; simp only [cond_true, cond_false] at this ⊢; omega) (hX.al3 _) (hq.mono BA)⟩
      · obtain ⟨o, ho, hop, hd, hg⟩ := xo11
        refine wpOp_allocF ho hop hg ?_
        rw [hd]
        have BA := up_alloc (Below.refl w.heap.size w) (.cells #[.int .i64 0, .int .i64 0] 25 (0, 0))
        exact ⟨(hX.al5 _).c, ih true false true g2 g3 w.heap.size s10 q _ (by have := hn; unfold cnt at this ⊢; simp only [cond_true, cond_false] at this ⊢; omega) (hX.al5 _) (hq.mono BA)⟩
    · refine wpAnyH_all (rs := [3, 10]) (by kernel_rfl) (by simp) ?_
      intro i hmem
      simp only [List.mem_cons, List.not_mem_nil, or_false] at hmem
      rcases hmem with rfl | rfl
      · obtain ⟨o, ho, hop, hd, hg⟩ := xo3
        refine wpOp_call ho 37 _ _ #[.agg #[.slice p 1 1], .agg #[.slice q 1 1]] hop hg (by simp only [List.map_toArray, List.map_cons, List.map_nil]; rfl) ?_ (enters_of Try.func37 (by kernel_rfl) rfl)
        refine (CC w p q (hP.mono hX.u) hq).mono ?_
        rintro e w' ⟨pa, ca, pb, cb, rfl, hpa, hpb, BA⟩
        refine ⟨_, rfl, ?_⟩
        rw [hd]
        have hY := hX.up BA
        refine ⟨hY.c, ?_⟩
        obtain ⟨o4, ho4, hop4, hd4, hg4⟩ := xo4
        refine wpAnyH_take ho4 (by kernel_rfl) (by kernel_rfl) (by kernel_rfl) (fun c a w => hQ c a _ _ w) (yl_tmp _ 12 _ (.inl hop4) hg4 rfl) hY.c ?_
        rw [hd4]
        obtain ⟨o5, ho5, hop5, hd5, hg5⟩ := xo5
        refine wpAnyH_take ho5 (by kernel_rfl) (by kernel_rfl) (by kernel_rfl) (fun c a w => hQ c a _ _ w) (yl_extract _ 8 0 (xT pa ca pb cb) _ hop5 hg5 rfl rfl) hY.c ?_
        rw [hd5]
        obtain ⟨o6, ho6, hop6, hd6, hg6⟩ := xo6
        refine wpAnyH_take ho6 (by kernel_rfl) (by kernel_rfl) (by kernel_rfl) (fun c a w => hQ c a _ _ w) (yl_extract _ 8 1 (xT pa ca pb cb) _ hop6 hg6 rfl rfl) hY.c ?_
        rw [hd6]
        obtain ⟨o7, ho7, hop7, hd7, hg7⟩ := xo7
        refine wpAnyH_take ho7 (by kernel_rfl) (by kernel_rfl) (by kernel_rfl) (fun c a w => hQ c a _ _ w) (yl_extract _ 8 2 (xT pa ca pb cb) _ hop7 hg7 rfl rfl) hY.c ?_
        rw [hd7]
        obtain ⟨o8, ho8, hop8, hd8, hg8⟩ := xo8
        refine wpAnyH_take ho8 (by kernel_rfl) (by kernel_rfl) (by kernel_rfl) (fun c a w => hQ c a _ _ w) (yl_extract _ 8 3 (xT pa ca pb cb) _ hop8 hg8 rfl rfl) hY.c ?_
        rw [hd8]
        exact xH3 hgp hP hQ hE (n + 1) true false true g2 g3 g5 _ _ pa ca pb cb w.heap.size w'.heap.size _ hn hY (ptR_of hpa) (ptR_of hpb) (fun _ => .inl (hX.z2 rfl).1.lt) (fun e => by cases e) (fun _ => .inl (hX.z5 rfl).1.lt)
      · obtain ⟨o, ho, hop, hd, hg⟩ := xo10
        refine wpOp_allocP ho hop hg ?_
        rw [hd]
        have BA := up_alloc (Below.refl w.heap.size w) (.cells #[.slice none 0 0] 41 (0, 0))
        exact ⟨(hX.al3 _).c, ih true true true g2 w.heap.size g5 s10 q _ (by have := hn; unfold cnt at this ⊢; simp only [cond_true, cond_false] at this ⊢; omega) (hX.al3 _) (hq.mono BA)⟩
    · refine wpAnyH_all (rs := [3, 11]) (by kernel_rfl) (by simp) ?_
      intro i hmem
      simp only [List.mem_cons, List.not_mem_nil, or_false] at hmem
      rcases hmem with rfl | rfl
      · obtain ⟨o, ho, hop, hd, hg⟩ := xo3
        refine wpOp_call ho 37 _ _ #[.agg #[.slice p 1 1], .agg #[.slice q 1 1]] hop hg (by simp only [List.map_toArray, List.map_cons, List.map_nil]; rfl) ?_ (enters_of Try.func37 (by kernel_rfl) rfl)
        refine (CC w p q (hP.mono hX.u) hq).mono ?_
        rintro e w' ⟨pa, ca, pb, cb, rfl, hpa, hpb, BA⟩
        refine ⟨_, rfl, ?_⟩
        rw [hd]
        have hY := hX.up BA
        refine ⟨hY.c, ?_⟩
        obtain ⟨o4, ho4, hop4, hd4, hg4⟩ := xo4
        refine wpAnyH_take ho4 (by kernel_rfl) (by kernel_rfl) (by kernel_rfl) (fun c a w => hQ c a _ _ w) (yl_tmp _ 12 _ (.inl hop4) hg4 rfl) hY.c ?_
        rw [hd4]
        obtain ⟨o5, ho5, hop5, hd5, hg5⟩ := xo5
        refine wpAnyH_take ho5 (by kernel_rfl) (by kernel_rfl) (by kernel_rfl) (fun c a w => hQ c a _ _ w) (yl_extract _ 8 0 (xT pa ca pb cb) _ hop5 hg5 rfl rfl) hY.c ?_
        rw [hd5]
        obtain ⟨o6, ho6, hop6, hd6, hg6⟩ := xo6
        refine wpAnyH_take ho6 (by kernel_rfl) (by kernel_rfl) (by kernel_rfl) (fun c a w => hQ c a _ _ w) (yl_extract _ 8 1 (xT pa ca pb cb) _ hop6 hg6 rfl rfl) hY.c ?_
        rw [hd6]
        obtain ⟨o7, ho7, hop7, hd7, hg7⟩ := xo7
        refine wpAnyH_take ho7 (by kernel_rfl) (by kernel_rfl) (by kernel_rfl) (fun c a w => hQ c a _ _ w) (yl_extract _ 8 2 (xT pa ca pb cb) _ hop7 hg7 rfl rfl) hY.c ?_
        rw [hd7]
        obtain ⟨o8, ho8, hop8, hd8, hg8⟩ := xo8
        refine wpAnyH_take ho8 (by kernel_rfl) (by kernel_rfl) (by kernel_rfl) (fun c a w => hQ c a _ _ w) (yl_extract _ 8 3 (xT pa ca pb cb) _ hop8 hg8 rfl rfl) hY.c ?_
        rw [hd8]
        exact xH3 hgp hP hQ hE (n + 1) true true false g2 g3 g5 _ _ pa ca pb cb w.heap.size w'.heap.size _ hn hY (ptR_of hpa) (ptR_of hpb) (fun _ => .inl (hX.z2 rfl).1.lt) (fun _ => .inl (hX.z3 rfl).1.lt) (fun e => by cases e)
      · obtain ⟨o, ho, hop, hd, hg⟩ := xo11
        refine wpOp_allocF ho hop hg ?_
        rw [hd]
        have BA := up_alloc (Below.refl w.heap.size w) (.cells #[.int .i64 0, .int .i64 0] 25 (0, 0))
        exact ⟨(hX.al5 _).c, ih true true true g2 g3 w.heap.size s10 q _ (by have := hn; unfold cnt at this ⊢; simp only [cond_true, cond_false] at this ⊢; omega) (hX.al5 _) (hq.mono BA)⟩
    · cases hn
set_option maxRecDepth 100000 in
set_option maxHeartbeats 4000000 in
theorem xH1 {Q : Exit → Act → World → Prop} {W0 : World} {gp : Nat} {p : Option Addr} {s6 s7 : Value} (hgp : gp < W0.heap.size) (hP : Ptc W0 p xP) (hQ : ∀ (c : _) (a : Act) (d : Option Tmp) (v : Value) (w : World), Q (.panic c) (a.put d v) w → Q (.panic c) a w) (hE : xEnd Q W0 gp p s6 s7) (CC : ∀ (w : World) (p q : Option Addr), Ptc w p xP → Ptc w q xQ → Calls Try.prog 37 #[.agg #[.slice p 1 1], .agg #[.slice q 1 1]] w fun e w' => ∃ pa ca pb cb, e = .returned (.tuple (xT pa ca pb cb)) ∧ PtAt w.heap.size w' pa xR ∧ PtAt w.heap.size w' pb xP ∧ Below w.heap.size w w') :
    ∀ (n : Nat) (b2 b3 b5 : Bool) (g2 g3 g5 : Nat) (gx : Nat) (w : World), cnt b2 b3 b5 = n → Xs W0 gp p b2 b3 b5 g2 g3 g5 w → Rd w (some ⟨gx, 0, none⟩, 1, 1) [rX] → 
      wpAnyH Try.prog .any xOps Q (xS gp p) (n + 11) #[true, true, false, false, false, false, false, false, false, b2, b3, b5, false, false, false, false] (xF gp s6 s7 (pv b2 g2) (pv b3 g3) undef (pv b5 g5) undef (.agg #[.slice p 1 1]) (.slice (some ⟨gx, 0, none⟩) 1 1) undef undef undef undef undef undef) w := by
  intro n
  induction n with
  | zero =>
    intro b2 b3 b5 g2 g3 g5 gx w hn hX hR
    cases b2 <;> cases b3 <;> cases b5 <;> first | (exfalso; revert hn; decide) | skip
    refine wpAnyH_all (rs := [2]) (by kernel_rfl) (by simp) ?_
    intro i hmem
    obtain rfl := List.mem_singleton.1 hmem
    obtain ⟨o, ho, hop, hd, hg⟩ := xo2
    refine wpOp_call ho 76 _ _ #[.int .i64 5, .slice (some ⟨gx, 0, none⟩) 1 1, .slice none 0 0] hop hg (by simp only [List.map_toArray, List.map_cons, List.map_nil]; rfl) ?_ (enters_of Try.func76 (by kernel_rfl) rfl)
    refine (hunk_any 5 (some ⟨gx, 0, none⟩, 1, 1) (none, 0, 0) [rX] [] w hR ⟨sts_nil _ _, rfl, fun _ => rfl, Nat.le_refl _⟩).mono ?_
    rintro e w' ⟨q, rfl, hq, -, BA⟩
    refine ⟨_, rfl, ?_⟩
    rw [hd]
    exact ⟨(hX.up BA).c, xH2 hgp hP hQ hE CC 0 true true true g2 g3 g5 _ q _ hn (hX.up BA) hq⟩
  | succ n ih =>
    intro b2 b3 b5 g2 g3 g5 gx w hn hX hR
    cases b2 <;> cases b3 <;> cases b5
    · refine wpAnyH_all (rs := [2, 9, 10, 11]) (by kernel_rfl) (by simp) ?_
      intro i hmem
      simp only [List.mem_cons, List.not_mem_nil, or_false] at hmem
      rcases hmem with rfl | rfl | rfl | rfl
      · obtain ⟨o, ho, hop, hd, hg⟩ := xo2
        refine wpOp_call ho 76 _ _ #[.int .i64 5, .slice (some ⟨gx, 0, none⟩) 1 1, .slice none 0 0] hop hg (by simp only [List.map_toArray, List.map_cons, List.map_nil]; rfl) ?_ (enters_of Try.func76 (by kernel_rfl) rfl)
        refine (hunk_any 5 (some ⟨gx, 0, none⟩, 1, 1) (none, 0, 0) [rX] [] w hR ⟨sts_nil _ _, rfl, fun _ => rfl, Nat.le_refl _⟩).mono ?_
        rintro e w' ⟨q, rfl, hq, -, BA⟩
        refine ⟨_, rfl, ?_⟩
        rw [hd]
        exact ⟨(hX.up BA).c, xH2 hgp hP hQ hE CC (n + 1) false false false g2 g3 g5 _ q _ hn (hX.up BA) hq⟩
      · obtain ⟨o, ho, hop, hd, hg⟩ := xo9
        refine wpOp_allocP ho hop hg ?_
        rw [hd]
        have BA := up_alloc (Below.refl w.heap.size w) (.cells #[.slice none 0 0] 41 (0, 0))
        exact ⟨(hX.al2 _).c, ih true false false w.heap.size g3 g5 gx _ (by have := hn; unfold cnt at this ⊢; simp only [cond_true, cond_false] at this ⊢; omega) (hX.al2 _) (hR.mono BA)⟩
      · obtain ⟨o, ho, hop, hd, hg⟩ := xo10
        refine wpOp_allocP ho hop hg ?_
        rw [hd]
        have BA := up_alloc (Below.refl w.heap.size w) (.cells #[.slice none 0 0] 41 (0, 0))
        exact ⟨(hX.al3 _).c, ih false true false g2 w.heap.size g5 gx _ (by have := hn; unfold cnt at this ⊢; simp only [cond_true, cond_false] at this ⊢; omega) (hX.al3 _) (hR.mono BA)⟩
      · obtain ⟨o, ho, hop, hd, hg⟩ := xo11
        refine wpOp_allocF ho hop hg ?_
        rw [hd]
        have BA := up_alloc (Below.refl w.heap.size w) (.cells #[.int .i64 0, .int .i64 0] 25 (0, 0))
        exact ⟨(hX.al5 _).c, ih false false true g2 g3 w.heap.size gx _ (by have := hn; unfold cnt at this ⊢; simp only [cond_true, cond_false] at this ⊢; omega) (hX.al5 _) (hR.mono BA)⟩
    · refine wpAnyH_all (rs := [2, 9, 10]) (by kernel_rfl) (by simp) ?_
      intro i hmem
      simp only [List.mem_cons, List.not_mem_nil, or_false] at hmem
      rcases hmem with rfl | rfl | rfl
      · obtain ⟨o, ho, hop, hd, hg⟩ := xo2
        refine wpOp_call ho 76 _ _ #[.int .i64 5, .slice (some ⟨gx, 0, none⟩) 1 1, .slice none 0 0] hop hg (by simp only [List.map_toArray, List.map_cons, List.map_nil]; rfl) ?_ (enters_of Try.func76 (by kernel_rfl) rfl)
        refine (hunk_any 5 (some ⟨gx, 0, none⟩, 1, 1) (none, 0, 0) [rX] [] w hR ⟨sts_nil _ _, rfl, fun _ => rfl, Nat.le_refl _⟩).mono ?_
        rintro e w' ⟨q, rfl, hq, -, BA⟩
        refine ⟨_, rfl, ?_⟩
        rw [hd]
        exact ⟨(hX.up BA).c, xH2 hgp hP hQ hE CC (n + 1) false false true g2 g3 g5 _ q _ hn (hX.up BA) hq⟩
      · obtain ⟨o, ho, hop, hd, hg⟩ := xo9
        refine wpOp_allocP ho hop hg ?_
        rw [hd]
        have BA := up_alloc (Below.refl w.heap.size w) (.cells #[.slice none 0 0] 41 (0, 0))
        exact ⟨(hX.al2 _).c, ih true false true w.heap.size g3 g5 gx _ (by have := hn; unfold cnt at this ⊢; simp only [cond_true, cond_false] at this ⊢; omega) (hX.al2 _) (hR.mono BA)⟩
      · obtain ⟨o, ho, hop, hd, hg⟩ := xo10
        refine wpOp_allocP ho hop hg ?_
        rw [hd]
        have BA := up_alloc (Below.refl w.heap.size w) (.cells #[.slice none 0 0] 41 (0, 0))
        exact ⟨(hX.al3 _).c, ih false true true g2 w.heap.size g5 gx _ (by have := hn; unfold cnt at this ⊢; simp only [cond_true, cond_false] at this ⊢; omega) (hX.al3 _) (hR.mono BA)⟩
    · refine wpAnyH_all (rs := [2, 9, 11]) (by kernel_rfl) (by simp) ?_
      intro i hmem
      simp only [List.mem_cons, List.not_mem_nil, or_false] at hmem
      rcases hmem with rfl | rfl | rfl
      · obtain ⟨o, ho, hop, hd, hg⟩ := xo2
        refine wpOp_call ho 76 _ _ #[.int .i64 5, .slice (some ⟨gx, 0, none⟩) 1 1, .slice none 0 0] hop hg (by simp only [List.map_toArray, List.map_cons, List.map_nil]; rfl) ?_ (enters_of Try.func76 (by kernel_rfl) rfl)
        refine (hunk_any 5 (some ⟨gx, 0, none⟩, 1, 1) (none, 0, 0) [rX] [] w hR ⟨sts_nil _ _, rfl, fun _ => rfl, Nat.le_refl _⟩).mono ?_
        rintro e w' ⟨q, rfl, hq, -, BA⟩
        refine ⟨_, rfl, ?_⟩
        rw [hd]
        exact ⟨(hX.up BA).c, xH2 hgp hP hQ hE CC (n + 1) false true false g2 g3 g5 _ q _ hn (hX.up BA) hq⟩
      · obtain ⟨o, ho, hop, hd, hg⟩ := xo9
        refine wpOp_allocP ho hop hg ?_
        rw [hd]
        have BA := up_alloc (Below.refl w.heap.size w) (.cells #[.slice none 0 0] 41 (0, 0))
        exact ⟨(hX.al2 _).c, ih true true false w.heap.size g3 g5 gx _ (by have := hn; unfold cnt at this ⊢; simp only [cond_true, cond_false] at this ⊢; omega) (hX.al2 _) (hR.mono BA)⟩
      · obtain ⟨o, ho, hop, hd, hg⟩ := xo11
        refine wpOp_allocF ho hop hg ?_
        rw [hd]
        have BA := up_alloc (Below.refl w.heap.size w) (.cells #[.int .i64 0, .int .i64 0] 25 (0, 0))
        exact ⟨(hX.al5 _).c, ih false true true g2 g3 w.heap.size gx _ (by have := hn; unfold cnt at this ⊢; simp only [cond_true, cond_false] at this ⊢; omega) (hX.al5 _) (hR.mono BA)⟩
    · refine wpAnyH_all (rs := [2, 9]) (by kernel_rfl) (by simp) ?_
      intro i hmem
      simp only [List.mem_cons, List.not_mem_nil, or_false] at hmem
      rcases hmem with rfl | rfl
      · obtain ⟨o, ho, hop, hd, hg⟩ := xo2
        refine wpOp_call ho 76 _ _ #[.int .i64 5, .slice (some ⟨gx, 0, none⟩) 1 1, .slice none 0 0] hop hg (by simp only [List.map_toArray, List.map_cons, List.map_nil]; rfl) ?_ (enters_of Try.func76 (by kernel_rfl) rfl)
        refine (hunk_any 5 (some ⟨gx, 0, none⟩, 1, 1) (none, 0, 0) [rX] [] w hR ⟨sts_nil _ _, rfl, fun _ => rfl, Nat.le_refl _⟩).mono ?_
        rintro e w' ⟨q, rfl, hq, -, BA⟩
        refine ⟨_, rfl, ?_⟩
        rw [hd]
        exact ⟨(hX.up BA).c, xH2 hgp hP hQ hE CC (n + 1) false true true g2 g3 g5 _ q _ hn (hX.up BA) hq⟩
      · obtain ⟨o, ho, hop, hd, hg⟩ := xo9
        refine wpOp_allocP ho hop hg ?_
        rw [hd]
        have BA := up_alloc (Below.refl w.heap.size w) (.cells #[.slice none 0 0] 41 (0, 0))
        exact ⟨(hX.al2 _).c, ih true true true w.heap.size g3 g5 gx _ (by have := hn; unfold cnt at this ⊢; simp only [cond_true, cond_false] at this ⊢; omega) (hX.al2 _) (hR.mono BA)⟩
    · refine wpAnyH_all (rs := [2, 10, 11]) (by kernel_rfl) (by simp) ?_
      intro i hmem
      simp only [List.mem_cons, List.not_mem_nil, or_false] at hmem
      rcases hmem with rfl | rfl | rfl
      · obtain ⟨o, ho, hop, hd, hg⟩ := xo2
        refine wpOp_call ho 76 _ _ #[.int .i64 5, .slice (some ⟨gx, 0, none⟩) 1 1, .slice none 0 0] hop hg (by simp only [List.map_toArray, List.map_cons, List.map_nil]; rfl) ?_ (enters_of Try.func76 (by kernel_rfl) rfl)
        refine (hunk_any 5 (some ⟨gx, 0, none⟩, 1, 1) (none, 0, 0) [rX] [] w hR ⟨sts_nil _ _, rfl, fun _ => rfl, Nat.le_refl _⟩).mono ?_
        rintro e w' ⟨q, rfl, hq, -, BA⟩
        refine ⟨_, rfl, ?_⟩
        rw [hd]
        exact ⟨(hX.up BA).c, xH2 hgp hP hQ hE CC (n + 1) true false false g2 g3 g5 _ q _ hn (hX.up BA) hq⟩
      · obtain ⟨o, ho, hop, hd, hg⟩ := xo10
        refine wpOp_allocP ho hop hg ?_
        rw [hd]
        have BA := up_alloc (Below.refl w.heap.size w) (.cells #[.slice none 0 0] 41 (0, 0))
        exact ⟨(hX.al3 _).c, ih true true false g2 w.heap.size g5 gx _ (by have := hn; unfold cnt at this ⊢; simp only [cond_true, cond_false] at this ⊢; omega) (hX.al3 _) (hR.mono BA)⟩
      · obtain ⟨o, ho, hop, hd, hg⟩ := xo11
        refine wpOp_allocF ho hop hg ?_
        rw [hd]
        have BA := up_alloc (Below.refl w.heap.size w) (.cells #[.int .i64 0, .int .i64 0] 25 (0, 0))
        exact ⟨(hX.al5 _).c, ih true false true g2 g3 w.heap.size gx _ (by have := hn; unfold cnt at this ⊢; simp only [cond_true, cond_false] at this ⊢; omega) (hX.al5 _) (hR.mono BA)⟩
    · refine wpAnyH_all (rs := [2, 10]) (by kernel_rfl) (by simp) ?_
      intro i hmem
      simp only [List.mem_cons, List.not_mem_nil, or_false] at hmem
      rcases hmem with rfl | rfl
      · obtain ⟨o, ho, hop, hd, hg⟩ := xo2
        refine wpOp_call ho 76 _ _ #[.int .i64 5, .slice (some ⟨gx, 0, none⟩) 1 1, .slice none 0 0] hop hg (by simp only [List.map_toArray, List.map_cons, List.map_nil]; rfl) ?_ (enters_of Try.func76 (by kernel_rfl) rfl)
        refine (hunk_any 5 (some ⟨gx, 0, none⟩, 1, 1) (none, 0, 0) [rX] [] w hR ⟨sts_nil _ _, rfl, fun _ => rfl, Nat.le_refl _⟩).mono ?_
        rintro e w' ⟨q, rfl, hq, -, BA⟩
        refine ⟨_, rfl, ?_⟩
        rw [hd]
        exact ⟨(hX.up BA).c, xH2 hgp hP hQ hE CC (n + 1) true false true g2 g3 g5 _ q _ hn (hX.up BA) hq⟩
      · obtain ⟨o, ho, hop, hd, hg⟩ := xo10
        refine wpOp_allocP ho hop hg ?_
        rw [hd]
        have BA := up_alloc (Below.refl w.heap.size w) (.cells #[.slice none 0 0] 41 (0, 0))
        exact ⟨(hX.al3 _).c, ih true true true g2 w.heap.size g5 gx _ (by have := hn; unfold cnt at this ⊢; simp only [cond_true, cond_false] at this ⊢; omega) (hX.al3 _) (hR.mono BA)⟩
    · refine wpAnyH_all (rs := [2, 11]) (by kernel_rfl) (by simp) ?_
      intro i hmem
      simp only [List.mem_cons, List.not_mem_nil, or_false] at hmem
      rcases hmem with rfl | rfl
      · obtain ⟨o, ho, hop, hd, hg⟩ := xo2
        refine wpOp_call ho 76 _ _ #[.int .i64 5, .slice (some ⟨gx, 0, none⟩) 1 1, .slice none 0 0] hop hg (by simp only [List.map_toArray, List.map_cons, List.map_nil]; rfl) ?_ (enters_of Try.func76 (by kernel_rfl) rfl)
        refine (hunk_any 5 (some ⟨gx, 0, none⟩, 1, 1) (none, 0, 0) [rX] [] w hR ⟨sts_nil _ _, rfl, fun _ => rfl, Nat.le_refl _⟩).mono ?_
        rintro e w' ⟨q, rfl, hq, -, BA⟩
        refine ⟨_, rfl, ?_⟩
        rw [hd]
        exact ⟨(hX.up BA).c, xH2 hgp hP hQ hE CC (n + 1) true true false g2 g3 g5 _ q _ hn (hX.up BA) hq⟩
      · obtain ⟨o, ho, hop, hd, hg⟩ := xo11
        refine wpOp_allocF ho hop hg ?_
        rw [hd]
        have BA := up_alloc (Below.refl w.heap.size w) (.cells #[.int .i64 0, .int .i64 0] 25 (0, 0))
        exact ⟨(hX.al5 _).c, ih true true true g2 g3 w.heap.size gx _ (by have := hn; unfold cnt at this ⊢; simp only [cond_true, cond_false] at this ⊢; omega) (hX.al5 _) (hR.mono BA)⟩
    · cases hn
set_option maxRecDepth 100000 in
set_option maxHeartbeats 4000000 in
theorem xH0 {Q : Exit → Act → World → Prop} {W0 : World} {gp : Nat} {p : Option Addr} {s6 s7 : Value} (hgp : gp < W0.heap.size) (hP : Ptc W0 p xP) (hQ : ∀ (c : _) (a : Act) (d : Option Tmp) (v : Value) (w : World), Q (.panic c) (a.put d v) w → Q (.panic c) a w) (hE : xEnd Q W0 gp p s6 s7) (CC : ∀ (w : World) (p q : Option Addr), Ptc w p xP → Ptc w q xQ → Calls Try.prog 37 #[.agg #[.slice p 1 1], .agg #[.slice q 1 1]] w fun e w' => ∃ pa ca pb cb, e = .returned (.tuple (xT pa ca pb cb)) ∧ PtAt w.heap.size w' pa xR ∧ PtAt w.heap.size w' pb xP ∧ Below w.heap.size w w') :
    ∀ (n : Nat) (b2 b3 b5 : Bool) (g2 g3 g5 : Nat) (w : World), cnt b2 b3 b5 = n → Xs W0 gp p b2 b3 b5 g2 g3 g5 w → 
      wpAnyH Try.prog .any xOps Q (xS gp p) (n + 12) #[true, false, false, false, false, false, false, false, false, b2, b3, b5, false, false, false, false] (xF gp s6 s7 (pv b2 g2) (pv b3 g3) undef (pv b5 g5) undef (.agg #[.slice p 1 1]) undef undef undef undef undef undef undef) w := by
  intro n
  induction n with
  | zero =>
    intro b2 b3 b5 g2 g3 g5 w hn hX 
    cases b2 <;> cases b3 <;> cases b5 <;> first | (exfalso; revert hn; decide) | skip
    refine wpAnyH_all (rs := [1]) (by kernel_rfl) (by simp) ?_
    intro i hmem
    obtain rfl := List.mem_singleton.1 hmem
    obtain ⟨o, ho, hop, hd, hg⟩ := xo1
    refine wpOp_lit ho rX hop hg ?_
    rw [hd]
    have BA := up_alloc (Below.refl w.heap.size w) (.cells #[.string rX] 9 (0, 0))
    exact ⟨(hX.up BA).c, xH1 hgp hP hQ hE CC 0 true true true g2 g3 g5 w.heap.size _ hn (hX.up BA) (rd_lit w w.heap.size [rX] rfl (by decide) (by decide))⟩
  | succ n ih =>
    intro b2 b3 b5 g2 g3 g5 w hn hX 
    cases b2 <;> cases b3 <;> cases b5
    · refine wpAnyH_all (rs := [1, 9, 10, 11]) (by kernel_rfl) (by simp) ?_
      intro i hmem
      simp only [List.mem_cons, List.not_mem_nil, or_false] at hmem
      rcases hmem with rfl | rfl | rfl | rfl
      · obtain ⟨o, ho, hop, hd, hg⟩ := xo1
        refine wpOp_lit ho rX hop hg ?_
        rw [hd]
        have BA := up_alloc (Below.refl w.heap.size w) (.cells #[.string rX] 9 (0, 0))
        exact ⟨(hX.up BA).c, xH1 hgp hP hQ hE CC (n + 1) false false false g2 g3 g5 w.heap.size _ hn (hX.up BA) (rd_lit w w.heap.size [rX] rfl (by decide) (by decide))⟩
      · obtain ⟨o, ho, hop, hd, hg⟩ := xo9
        refine wpOp_allocP ho hop hg ?_
        rw [hd]
        have BA := up_alloc (Below.refl w.heap.size w) (.cells #[.slice none 0 0] 41 (0, 0))
        exact ⟨(hX.al2 _).c, ih true false false w.heap.size g3 g5 _ (by have := hn; unfold cnt at this ⊢; simp only [cond_true, cond_false] at this ⊢; omega) (hX.al2 _) ⟩
      · obtain ⟨o, ho, hop, hd, hg⟩ := xo10
        refine wpOp_allocP ho hop hg ?_
        rw [hd]
        have BA := up_alloc (Below.refl w.heap.size w) (.cells #[.slice none 0 0] 41 (0, 0))
        exact ⟨(hX.al3 _).c, ih false true false g2 w.heap.size g5 _ (by have := hn; unfold cnt at this ⊢; simp only [cond_true, cond_false] at this ⊢; omega) (hX.al3 _) ⟩
      · obtain ⟨o, ho, hop, hd, hg⟩ := xo11
        refine wpOp_allocF ho hop hg ?_
        rw [hd]
        have BA := up_alloc (Below.refl w.heap.size w) (.cells #[.int .i64 0, .int .i64 0] 25 (0, 0))
        exact ⟨(hX.al5 _).c, ih false false true g2 g3 w.heap.size _ (by have := hn; unfold cnt at this ⊢; simp only [cond_true, cond_false] at this ⊢; omega) (hX.al5 _) ⟩
    · refine wpAnyH_all (rs := [1, 9, 10]) (by kernel_rfl) (by simp) ?_
      intro i hmem
      simp only [List.mem_cons, List.not_mem_nil, or_false] at hmem
      rcases hmem with rfl | rfl | rfl
      · obtain ⟨o, ho, hop, hd, hg⟩ := xo1
        refine wpOp_lit ho rX hop hg ?_
        rw [hd]
        have BA := up_alloc (Below.refl w.heap.size w) (.cells #[.string rX] 9 (0, 0))
        exact ⟨(hX.up BA).c, xH1 hgp hP hQ hE CC (n + 1) false false true g2 g3 g5 w.heap.size _ hn (hX.up BA) (rd_lit w w.heap.size [rX] rfl (by decide) (by decide))⟩
      · obtain ⟨o, ho, hop, hd, hg⟩ := xo9
        refine wpOp_allocP ho hop hg ?_
        rw [hd]
        have BA := up_alloc (Below.refl w.heap.size w) (.cells #[.slice none 0 0] 41 (0, 0))
        exact ⟨(hX.al2 _).c, ih true false true w.heap.size g3 g5 _ (by have := hn; unfold cnt at this ⊢; simp only [cond_true, cond_false] at this ⊢; omega) (hX.al2 _) ⟩
      · obtain ⟨o, ho, hop, hd, hg⟩ := xo10
        refine wpOp_allocP ho hop hg ?_
        rw [hd]
        have BA := up_alloc (Below.refl w.heap.size w) (.cells #[.slice none 0 0] 41 (0, 0))
        exact ⟨(hX.al3 _).c, ih false true true g2 w.heap.size g5 _ (by have := hn; unfold cnt at this ⊢; simp only [cond_true, cond_false] at this ⊢; omega) (hX.al3 _) ⟩
    · refine wpAnyH_all (rs := [1, 9, 11]) (by kernel_rfl) (by simp) ?_
      intro i hmem
      simp only [List.mem_cons, List.not_mem_nil, or_false] at hmem
      rcases hmem with rfl | rfl | rfl
      · obtain ⟨o, ho, hop, hd, hg⟩ := xo1
        refine wpOp_lit ho rX hop hg ?_
        rw [hd]
        have BA := up_alloc (Below.refl w.heap.size w) (.cells #[.string rX] 9 (0, 0))
        exact ⟨(hX.up BA).c, xH1 hgp hP hQ hE CC (n + 1) false true false g2 g3 g5 w.heap.size _ hn (hX.up BA) (rd_lit w w.heap.size [rX] rfl (by decide) (by decide))⟩
      · obtain ⟨o, ho, hop, hd, hg⟩ := xo9
        refine wpOp_allocP ho hop hg ?_
        rw [hd]
        have BA := up_alloc (Below.refl w.heap.size w) (.cells #[.slice none 0 0] 41 (0, 0))
        exact ⟨(hX.al2 _).c, ih true true false w.heap.size g3 g5 _ (by have := hn; unfold cnt at this ⊢; simp only [cond_true, cond_false] at this ⊢; omega) (hX.al2 _) ⟩
      · obtain ⟨o, ho, hop, hd, hg⟩ := xo11
        refine wpOp_allocF ho hop hg ?_
        rw [hd]
        have BA := up_alloc (Below.refl w.heap.size w) (.cells #[.int .i64 0, .int .i64 0] 25 (0, 0))
        exact ⟨(hX.al5 _).c, ih false true true g2 g3 w.heap.size _ (by have := hn; unfold cnt at this ⊢; simp only [cond_true, cond_false] at this ⊢; omega) (hX.al5 _) ⟩
    · refine wpAnyH_all (rs := [1, 9]) (by kernel_rfl) (by simp) ?_
      intro i hmem
      simp only [List.mem_cons, List.not_mem_nil, or_false] at hmem
      rcases hmem with rfl | rfl
      · obtain ⟨o, ho, hop, hd, hg⟩ := xo1
        refine wpOp_lit ho rX hop hg ?_
        rw [hd]
        have BA := up_alloc (Below.refl w.heap.size w) (.cells #[.string rX] 9 (0, 0))
        exact ⟨(hX.up BA).c, xH1 hgp hP hQ hE CC (n + 1) false true true g2 g3 g5 w.heap.size _ hn (hX.up BA) (rd_lit w w.heap.size [rX] rfl (by decide) (by decide))⟩
      · obtain ⟨o, ho, hop, hd, hg⟩ := xo9
        refine wpOp_allocP ho hop hg ?_
        rw [hd]
        have BA := up_alloc (Below.refl w.heap.size w) (.cells #[.slice none 0 0] 41 (0, 0))
        exact ⟨(hX.al2 _).c, ih true true true w.heap.size g3 g5 _ (by have := hn; unfold cnt at this ⊢; simp only [cond_true, cond_false] at this ⊢; omega) (hX.al2 _) ⟩
    · refine wpAnyH_all (rs := [1, 10, 11]) (by kernel_rfl) (by simp) ?_
      intro i hmem
      simp only [List.mem_cons, List.not_mem_nil, or_false] at hmem
      rcases hmem with rfl | rfl | rfl
      · obtain ⟨o, ho, hop, hd, hg⟩ := xo1
        refine wpOp_lit ho rX hop hg ?_
        rw [hd]
        have BA := up_alloc (Below.refl w.heap.size w) (.cells #[.string rX] 9 (0, 0))
        exact ⟨(hX.up BA).c, xH1 hgp hP hQ hE CC (n + 1) true false false g2 g3 g5 w.heap.size _ hn (hX.up BA) (rd_lit w w.heap.size [rX] rfl (by decide) (by decide))⟩
      · obtain ⟨o, ho, hop, hd, hg⟩ := xo10
        refine wpOp_allocP ho hop hg ?_
        rw [hd]
        have BA := up_alloc (Below.refl w.heap.size w) (.cells #[.slice none 0 0] 41 (0, 0))
        exact ⟨(hX.al3 _).c, ih true true false g2 w.heap.size g5 _ (by have := hn; unfold cnt at this ⊢; simp only [cond_true, cond_false] at this ⊢; omega) (hX.al3 _) ⟩
      · obtain ⟨o, ho, hop, hd, hg⟩ := xo11
        refine wpOp_allocF ho hop hg ?_
        rw [hd]
        have BA := up_alloc (Below.refl w.heap.size w) (.cells #[.int .i64 0, .int .i64 0] 25 (0, 0))
        exact ⟨(hX.al5 _).c, ih true false true g2 g3 w.heap.size _ (by have := hn; unfold cnt at this ⊢; simp only [cond_true, cond_false] at this ⊢; omega) (hX.al5 _) ⟩
    · refine wpAnyH_all (rs := [1, 10]) (by kernel_rfl) (by simp) ?_
      intro i hmem
      simp only [List.mem_cons, List.not_mem_nil, or_false] at hmem
      rcases hmem with rfl | rfl
      · obtain ⟨o, ho, hop, hd, hg⟩ := xo1
        refine wpOp_lit ho rX hop hg ?_
        rw [hd]
        have BA := up_alloc (Below.refl w.heap.size w) (.cells #[.string rX] 9 (0, 0))
        exact ⟨(hX.up BA).c, xH1 hgp hP hQ hE CC (n + 1) true false true g2 g3 g5 w.heap.size _ hn (hX.up BA) (rd_lit w w.heap.size [rX] rfl (by decide) (by decide))⟩
      · obtain ⟨o, ho, hop, hd, hg⟩ := xo10
        refine wpOp_allocP ho hop hg ?_
        rw [hd]
        have BA := up_alloc (Below.refl w.heap.size w) (.cells #[.slice none 0 0] 41 (0, 0))
        exact ⟨(hX.al3 _).c, ih true true true g2 w.heap.size g5 _ (by have := hn; unfold cnt at this ⊢; simp only [cond_true, cond_false] at this ⊢; omega) (hX.al3 _) ⟩
    · refine wpAnyH_all (rs := [1, 11]) (by kernel_rfl) (by simp) ?_
      intro i hmem
      simp only [List.mem_cons, List.not_mem_nil, or_false] at hmem
      rcases hmem with rfl | rfl
      · obtain ⟨o, ho, hop, hd, hg⟩ := xo1
        refine wpOp_lit ho rX hop hg ?_
        rw [hd]
        have BA := up_alloc (Below.refl w.heap.size w) (.cells #[.string rX] 9 (0, 0))
        exact ⟨(hX.up BA).c, xH1 hgp hP hQ hE CC (n + 1) true true false g2 g3 g5 w.heap.size _ hn (hX.up BA) (rd_lit w w.heap.size [rX] rfl (by decide) (by decide))⟩
      · obtain ⟨o, ho, hop, hd, hg⟩ := xo11
        refine wpOp_allocF ho hop hg ?_
        rw [hd]
        have BA := up_alloc (Below.refl w.heap.size w) (.cells #[.int .i64 0, .int .i64 0] 25 (0, 0))
        exact ⟨(hX.al5 _).c, ih true true true g2 g3 w.heap.size _ (by have := hn; unfold cnt at this ⊢; simp only [cond_true, cond_false] at this ⊢; omega) (hX.al5 _) ⟩
    · cases hn
end Go.Proofs.Ytbgnckbgpiajjaa
