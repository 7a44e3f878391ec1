/- A region that draws its order within a round of a range over a function: it is walked as outside of one, where it holds no defer. Contract of the program's ToLetters: it writes what toL says. -/
import Derived.Test.YtcjeodgfpnecgaaM34
import Derived.Test.YtcjeodgfpnecgaaM32
import Derived.Test.YtcjeodgfpnecgaaM1
import Derived.Test.YtcjeodgfpnecgaaM33
import Derived.Test.YtcjeodgfpnecgaaM17
import Derived.OrdersIn
import Derived.AtR
import Derived.RangeFuncCalls
namespace Go.Proofs.Ytcjeodgfpnecgaa

theorem op_inRound {F : Fence} {l n : Nat} {P : Program} {o : Oper} {a : Act} {w : World} {K : Act → World → Prop} {Q : Exit → Act → World → Prop} (hro : F.round = none) (hd : ∀ c, o.op ≠ .defer c)
    (h : o.wpIn F n P a w K Q) : o.wpIn (F.inRound l) n P a w K Q := by
  refine ⟨h.1, ?_⟩
  have h2 := h.2
  rw [hro, Oper.semAt_eq _ _ _ hd] at h2
  rw [Oper.semAt_eq _ _ _ hd]
  exact h2

/-- No operation of the region is a defer. -/
def noDefer (ops : Array Oper) : Bool := ops.all fun o => match o.op with
  | .defer _ => false
  | _ => true

theorem noDefer_spec {ops : Array Oper} (h : noDefer ops = true) {i : Nat} {o : Oper} (hi : ops[i]? = some o) : ∀ c, o.op ≠ .defer c := by
  intro c hc
  have h1 := Array.all_eq_true.1 h
  obtain ⟨hlt, he⟩ := Array.getElem?_eq_some_iff.1 hi
  have h2 := h1 i hlt
  rw [he, hc] at h2
  cases h2

theorem anyR {F : Fence} {l n : Nat} {P : Program} {ops : Array Oper} {Q : Exit → Act → World → Prop} {md : Region.Mode} (hro : F.round = none) (hd : noDefer ops = true) :
    ∀ {fuel : Nat} {listed : Array Bool} {a : Act} {w : World}, wpAnyIn F n P md ops Q fuel listed a w → wpAnyIn (F.inRound l) n P md ops Q fuel listed a w := by
  intro fuel
  induction fuel with
  | zero => intro listed a w h; exact h
  | succ fuel ih =>
    intro listed a w h
    refine ⟨h.1, fun i hi => ?_⟩
    have h1 := h.2 i hi
    unfold wpOpIn at h1 ⊢
    cases ho : ops[i]? with
    | none => rw [ho] at h1; exact ih h1
    | some o =>
      rw [ho] at h1
      simp only at h1 ⊢
      split
      · rename_i hw
        rw [if_pos hw] at h1
        exact op_inRound hro (noDefer_spec hd ho) (Oper.wpIn_mono (fun a w => ih) h1)
      · rename_i hw
        rw [if_neg hw] at h1
        exact ⟨h1.1, ih h1.2⟩

theorem cutP {A G : Prop} (walk : G → A) (rest : G) : A := walk rest

end Go.Proofs.Ytcjeodgfpnecgaa

namespace Go.Proofs.Ytcjeodgfpnecgaa
open Go.RowKit Go.Shelf
attribute [local go_sem] Oper.semAt_some
set_option linter.unusedVariables false
set_option linter.unusedSimpArgs false

/-- What is turned is neither a builder nor a row of bytes: the builder stays. -/
theorem isBuilder_grown' {T e : TypeId} {B b : Nat} {bs : List Value} {W W' : World} {row : Option Nat} (h : Lib.IsBuilder T e B b bs W) (hg : W.grownBy W' row) (hr : ∀ r, row = some r → ∃ o : Obj, W.heap[r]? = some o ∧ ∀ c t fz, o = .cells c t fz → t ≠ T ∧ t ≠ e) : Lib.IsBuilder T e B b bs W' := by
  have at1 : ∀ p, Lib.BuilderAt T e B b p bs W → Lib.BuilderAt T e B b p bs W' := by
    rintro p ⟨hB, v, hh, hown, hne⟩
    refine ⟨hB, v, (hg.block b (lt_of_heap hh) (fun e1 => ?_)).trans hh, hown.kept hg ?_, hne⟩
    · obtain ⟨o, ho, hc⟩ := hr b e1.symm
      rw [hh] at ho
      exact (hc _ _ _ (Option.some.inj ho).symm).1 rfl
    · cases row with
      | none => exact Decidable.em _
      | some r =>
        refine Or.inr (fun e1 => ?_)
        obtain ⟨g, hgg⟩ := row_kind hown r e1
        obtain ⟨fz, hgg⟩ := hgg
        obtain ⟨o, ho, hc⟩ := hr r rfl
        rw [hgg] at ho
        exact (hc _ _ _ (Option.some.inj ho).symm).2 rfl
  exact h.elim (fun x => .inl (at1 _ x)) (fun x => .inr (at1 _ x))

theorem isBuilder_grown {T e : TypeId} {B b : Nat} {bs : List Value} {W W' : World} {row : Option Nat} (h : Lib.IsBuilder T e B b bs W) (hg : W.grownBy W' row) (hr : ∀ r, row = some r → ∃ o : Obj, W.heap[r]? = some o ∧ o.isCells = false) : Lib.IsBuilder T e B b bs W' :=
  isBuilder_grown' h hg (fun r e1 => by
    obtain ⟨o, ho, hc⟩ := hr r e1
    exact ⟨o, ho, fun c t fz e2 => by rw [e2] at hc; cases hc⟩)

theorem isBuilder_box {T e t : TypeId} {B b B' : Nat} {bs : List Value} {W : World} {v : Value} (h : Lib.IsBuilder T e B b bs W) (hb : Boxed W B' t v) (h1 : t ≠ T) (h2 : t ≠ e) (u : Value) : Lib.IsBuilder T e B b bs (W.setCell ⟨B', 0, none⟩ u) :=
  isBuilder_grown' h (grownBy_setCell' W B' u) (fun r e1 => by
    cases e1
    exact ⟨_, hb, fun c t' fz e2 => by cases e2; exact ⟨h1, h2⟩⟩)

theorem isBuilder_drew {T e : TypeId} {B b : Nat} {bs : List Value} {W : World} (h : Lib.IsBuilder T e B b bs W) : Lib.IsBuilder T e B b bs W.drew := h

theorem boxed_drew {W : World} {B : Nat} {t : TypeId} {v : Value} (h : Boxed W B t v) : Boxed W.drew B t v := h

theorem keepsO_drew {W W' : World} (h : KeepsOthers W W') : KeepsOthers W W'.drew := h.trans (KeepsOthers.drew _)

theorem below_drew {n : Nat} {W W' : World} (h : Below n W W') : Below n W W'.drew := h.drew


theorem byteCells_snoc (o : List UInt8) (x : UInt8) : Lib.byteCells o ++ [.int .u8 (x.toNat : Int)] = Lib.byteCells (o ++ [x]) := by simp [Lib.byteCells]

theorem box_others {W W' : World} {e t : TypeId} {b B : Nat} {v : Value} (h : Boxed W B t v) (hk : Lib.OthersKept e (some b) W W') (hne : B ≠ b) (ht : t ≠ e) : Boxed W' B t v :=
  hk B _ h (fun e1 => hne (Option.some.inj e1)) (fun c fz e1 => ht (by cases e1; rfl))

theorem keepsO_others {W W' : World} {e : TypeId} {b B n : Nat} {T : TypeId} {bs : List Value} (h : Lib.IsBuilder T e B b bs W) (hk : Lib.OthersKept e (some b) W W') (hb : Below n W W') : KeepsOthers W W' := by
  refine ⟨hb.size, fun k o ho hc => hk k o ho (fun e1 => ?_) (fun c fz e1 => by rw [e1] at hc; cases hc)⟩
  cases e1
  have hx : ∃ c, W.heap[b]? = some (.cells c T (0, 0)) := h.elim (fun x => by obtain ⟨_, v, hh, _⟩ := x; exact ⟨_, hh⟩) (fun x => by obtain ⟨_, v, hh, _⟩ := x; exact ⟨_, hh⟩)
  obtain ⟨c, hx⟩ := hx
  rw [hx] at ho
  cases ho
  cases hc

/-- The letters that are written while six bits or more are held. -/
def drn (h c : Nat) (out : List UInt8) : Nat × Nat × List UInt8 :=
  if c = 8 then (h % 4, 2, out ++ [letN (h / 4)])
  else if c = 10 then (h % 16, 4, out ++ [letN (h / 16)])
  else if c = 12 then (0, 0, out ++ [letN (h / 64), letN (h % 64)])
  else if c = 6 then (0, 0, out ++ [letN h])
  else (h, c, out)

def okD (h c : Nat) : Prop := (c = 8 ∧ h < 256) ∨ (c = 10 ∧ h < 1024) ∨ (c = 12 ∧ h < 4096) ∨ (c = 6 ∧ h < 64) ∨ c < 6

theorem drn_start (l : List UInt8) (x : UInt8) : drn ((stE l).1 * 256 + x.toNat) ((stE l).2.1 + 8) (stE l).2.2 = stE (l ++ [x]) ∧ okD ((stE l).1 * 256 + x.toNat) ((stE l).2.1 + 8) := by
  have hx := x.toNat_lt
  rw [stE_snoc]
  rcases stE_ok l with ⟨k1, k2, k3⟩ | ⟨k1, k2, k3⟩ | ⟨k1, k2, k3⟩
  · rw [k1, k2]
    exact ⟨by simp [drn, stepE, k1], .inl ⟨rfl, by omega⟩⟩
  · rw [k1]
    exact ⟨by simp [drn, stepE, k1], .inr (.inl ⟨rfl, by omega⟩)⟩
  · rw [k1]
    exact ⟨by simp [drn, stepE, k1], .inr (.inr (.inl ⟨rfl, by omega⟩))⟩

def cntAt (b : Nat) (W : World) : Nat := match W.cell? ⟨b, 0, none⟩ with
  | some (.int _ n) => n.toNat
  | _ => 0

theorem cntAt_box {W : World} {b : Nat} {t : TypeId} {k : IntKind} {n : Nat} (h : Boxed W b t (.int k (n : Int))) : cntAt b W = n := by
  unfold cntAt
  rw [h.cell]
  simp

theorem or_held (l : List UInt8) (x : UInt8) : bits BinOp.or IntKind.u32 (IntKind.u32.wrap (((stE l).1 : Int) * 256)) (IntKind.u32.wrap (x.toNat : Int)) = (((stE l).1 * 256 + x.toNat : Nat) : Int) := by
  have hx := x.toNat_lt
  have hh : (stE l).1 < 16 := by rcases stE_ok l with ⟨k1, k2, k3⟩ | ⟨k1, k2, k3⟩ | ⟨k1, k2, k3⟩ <;> omega
  have e1 : ((stE l).1 : Int) * 256 = ((2 ^ 8 * (stE l).1 : Nat) : Int) := by omega
  rw [e1, u32_in _ (by omega), u32_in _ (by omega), or32_add 8 _ _ (by omega) (by omega)]
  congr 1
  omega

theorem cnt8 (l : List UInt8) : IntKind.i64.wrap (((stE l).2.1 : Int) + 8) = (((stE l).2.1 + 8 : Nat) : Int) := by
  have hh : (stE l).2.1 ≤ 4 := by rcases stE_ok l with ⟨k1, k2, k3⟩ | ⟨k1, k2, k3⟩ | ⟨k1, k2, k3⟩ <;> omega
  have := IntWalk.i64_in (((stE l).2.1 : Int) + 8) (by omega)
  rw [this]
  omega

def padAt (b : Nat) (W : World) : Nat := match W.cell? ⟨b, 1, none⟩ with
  | some (.slice _ n _) => (4 - n % 4) % 4
  | _ => 0

theorem padAt_eq {T e : TypeId} {B b : Nat} {bs : List Value} {W : World} (h : Lib.IsBuilder T e B b bs W) : padAt b W = (4 - bs.length % 4) % 4 := by
  have at1 : ∀ p, Lib.BuilderAt T e B b p bs W → padAt b W = (4 - bs.length % 4) % 4 := by
    rintro p ⟨hB, v, hh, hown, hne⟩
    have hc : W.cell? ⟨b, 1, none⟩ = some v := by rw [Lib.cell_of_heap hh]; rfl
    unfold padAt
    rw [hc]
    rcases hown.2 with ⟨rfl, h0⟩ | ⟨g, cap, cur, rfl, _⟩
    · rw [h0]
    · rfl
  exact h.elim (at1 _) (at1 _)

theorem pad_snoc {o l : List UInt8} (h : o ++ List.replicate ((4 - o.length % 4) % 4) 61 = l) (h4 : ¬ o.length % 4 = 0) : (o ++ [61]) ++ List.replicate ((4 - (o ++ [61]).length % 4) % 4) 61 = l := by
  rw [← h, List.append_assoc]
  congr 1
  have e : (4 - o.length % 4) % 4 = (4 - (o ++ [61]).length % 4) % 4 + 1 := by
    simp only [List.length_append, List.length_cons, List.length_nil]
    omega
  rw [e, List.replicate_succ]
  rfl

theorem pad_end {o l : List UInt8} (h : o ++ List.replicate ((4 - o.length % 4) % 4) 61 = l) (h4 : o.length % 4 = 0) : o = l := by
  rw [h4] at h
  simpa using h

theorem pad_len {o l : List UInt8} (h : o ++ List.replicate ((4 - o.length % 4) % 4) 61 = toL l) : o.length ≤ (l.length + 2) / 3 * 4 := by
  have := congrArg List.length h
  rw [toL_len] at this
  simp only [List.length_append] at this
  omega

theorem fin0 {l : List UInt8} (k1 : (stE l).2.1 = 0) (k3 : (stE l).2.2.length % 4 = 0) : (stE l).2.2 ++ List.replicate ((4 - (stE l).2.2.length % 4) % 4) 61 = toL l := by
  rw [k3, toL_stE]
  simp [finE, k1]

theorem fin2 {l : List UInt8} (k1 : (stE l).2.1 = 2) (k3 : (stE l).2.2.length % 4 = 1) : ((stE l).2.2 ++ [letN ((stE l).1 * 16)]) ++ List.replicate ((4 - ((stE l).2.2 ++ [letN ((stE l).1 * 16)]).length % 4) % 4) 61 = toL l := by
  rw [show ((stE l).2.2 ++ [letN ((stE l).1 * 16)]).length % 4 = 2 by simp; omega, toL_stE]
  simp [finE, k1, List.replicate]

theorem fin4 {l : List UInt8} (k1 : (stE l).2.1 = 4) (k3 : (stE l).2.2.length % 4 = 2) : ((stE l).2.2 ++ [letN ((stE l).1 * 4)]) ++ List.replicate ((4 - ((stE l).2.2 ++ [letN ((stE l).1 * 4)]).length % 4) % 4) 61 = toL l := by
  rw [show ((stE l).2.2 ++ [letN ((stE l).1 * 4)]).length % 4 = 3 by simp; omega, toL_stE]
  simp [finE, k1, List.replicate]

theorem lenB (B b : Nat) (o : List UInt8) (w : World) (h : Lib.IsBuilder 46 5 B b (Lib.byteCells o) w) :
    Calls Try.prog 26 #[.pointer (some ⟨b, 0, none⟩)] w fun e w' => e = .returned (.int .i64 o.length) ∧ w' = w := by
  have := Try.Builder_Len B b (Lib.byteCells o) w h
  rw [Lib.byteCells_length] at this
  exact this

/-- A block that is neither the builder's nor cells stays where a writer of the builder has run. -/
theorem other_others {W W' : World} {e : TypeId} {b D : Nat} {o : Obj} (h : W.heap[D]? = some o) (hk : Lib.OthersKept e (some b) W W') (hne : D ≠ b) (ho : o.isCells = false) : W'.heap[D]? = some o :=
  hk D _ h (fun e1 => hne (Option.some.inj e1)) (fun c fz e1 => by rw [e1] at ho; cases ho)

/-- Between two rounds: the builder holds the letters, the two boxes the bits held and their count, the third the text. -/
def InvE (w : World) (s : ByteArray) (pre : List UInt8) (W : World) : Prop :=
  (Lib.IsBuilder 46 5 w.heap.size w.heap.size (Lib.byteCells (stE pre).2.2) W ∧ Boxed W (w.heap.size + 1) 57 (.int .u32 ((stE pre).1 : Int)) ∧ Boxed W (w.heap.size + 1 + 1) 3 (.int .i64 ((stE pre).2.1 : Int)) ∧ Boxed W (w.heap.size + 1 + 1 + 1) 9 (.string s)) ∧ Below w.heap.size w W

theorem invE_own (w : World) (s : ByteArray) (w4 : World) (h : w.heap.size ≤ w4.heap.size) : OwnFrom w4.heap.size (InvE w s) :=
  OwnFrom.and (Own.from (fun pre A B row hs hg hr => ⟨isBuilder_grown hs.1 hg hr, boxed_own _ _ (fun l : List UInt8 => .int .u32 ((stE l).1 : Int)) pre A B row hs.2.1 hg hr, boxed_own _ _ (fun l : List UInt8 => .int .i64 ((stE l).2.1 : Int)) pre A B row hs.2.2.1 hg hr, boxed_own _ _ (fun _ : List UInt8 => .string s) pre A B row hs.2.2.2 hg hr⟩) _) (ownFrom_below (Nat.le_refl _) h)

set_option maxRecDepth 100000 in
set_option maxHeartbeats 4000000 in
theorem cEncI (s : ByteArray) (w : World) (h0 : s.size ≤ 1048576) :
    Calls Try.prog 14 #[.string s] w fun e w' => e = .returned (.string ⟨(toL s.data.toList).toArray⟩) ∧ Below w.heap.size w w' := by
  refine (callsIn_wide (n := 3)).1 ?_
  refine callsIn_of_wp_marks Try.func14 rfl trivial ?_ rfl
  simp only [Try.ntmps14, List.size_toArray, List.length_cons, List.length_nil, Nat.reduceAdd, Nat.reduceSub, Array.replicate_succ, Array.replicate_zero, List.push_toArray, List.append_toArray, List.nil_append, List.cons_append]
  gi_wp2_with (refine ⟨trivial, ?_⟩; gi_at_call 24; refine (iter_in Fence.wide _ trivial rfl s _).mono ?_; rintro e w' ⟨rfl, rfl⟩)
  have hB0 : Below w.heap.size w ((((w.alloc (.cells #[.pointer none, .slice none 0 0] 46)).alloc (.cells #[.int .u32 0] 57)).alloc (.cells #[.int .i64 0] 3)).alloc (.cells #[.string s] 9)) := ((((Below.refl _ w).alloc (Nat.le_refl _) _).alloc (by simp) _).alloc (by simp; omega) _).alloc (by simp; omega) _
  have hi0 : InvE w s [] ((((w.alloc (.cells #[.pointer none, .slice none 0 0] 46)).alloc (.cells #[.int .u32 0] 57)).alloc (.cells #[.int .i64 0] 3)).alloc (.cells #[.string s] 9)) := by
    refine ⟨⟨?_, ?_, ?_, ?_⟩, hB0⟩
    · exact isBuilder_below (isBuilder_below (isBuilder_below (Lib.fresh_isBuilder 46 5 w) ((Below.refl _ _).alloc (Nat.le_refl _) _)) ((Below.refl _ _).alloc (Nat.le_refl _) _)) ((Below.refl _ _).alloc (Nat.le_refl _) _)
    · have := Boxed.new (w.alloc (.cells #[.pointer none, .slice none 0 0] 46)) 57 (.int .u32 0)
      rw [World.size_alloc] at this
      exact (this.alloc _).alloc _
    · have := Boxed.new ((w.alloc (.cells #[.pointer none, .slice none 0 0] 46)).alloc (.cells #[.int .u32 0] 57)) 3 (.int .i64 0)
      simp only [World.size_alloc] at this
      exact this.alloc _
    · have := Boxed.new (((w.alloc (.cells #[.pointer none, .slice none 0 0] 46)).alloc (.cells #[.int .u32 0] 57)).alloc (.cells #[.int .i64 0] 3)) 9 (.string s)
      simp only [World.size_alloc] at this
      exact this
  obtain ⟨w4, hw4⟩ : ∃ w4, ((((w.alloc (.cells #[.pointer none, .slice none 0 0] 46)).alloc (.cells #[.int .u32 0] 57)).alloc (.cells #[.int .i64 0] 3)).alloc (.cells #[.string s] 9)) = w4 := ⟨_, rfl⟩
  have hs4 : w4.heap.size = w.heap.size + 4 := by rw [← hw4]; simp
  rw [hw4] at hB0 hi0 ⊢
  clear hw4
  refine wpIn_rangeFunc_ownF rfl (by omega) (gf := 50) (lb := #[.pointer (some ⟨w.heap.size + 1 + 1 + 1, 0, none⟩)]) rfl trivial (enters_of Try.func50 (by kernel_rfl) rfl)
    (iter_stops Fence.wide _ trivial rfl (by omega) (w.heap.size + 1 + 1 + 1) s (by omega) w4 hi0.1.2.2.2) keepsBox_t (keepsBox_b (by omega)) (Below.refl _ _) (fun _ => rfl)
    (InvE w s)
    (fun _ _ _ => False)
    (invE_own w s w4 (by omega))
    (fun _ _ _ _ _ hs _ _ => hs)
    hi0
    (fun x => { tmps := #[.string s, undef, .string ⟨#[]⟩, .pointer (some ⟨w.heap.size, 0, none⟩), .pointer (some ⟨w.heap.size + 1, 0, none⟩), .pointer (some ⟨w.heap.size + 1 + 1, 0, none⟩), .int .u8 (x.toNat : Int), .string s, .func (.func 50) #[] #[.pointer (some ⟨w.heap.size + 1 + 1 + 1, 0, none⟩)], .int .u8 (x.toNat : Int), undef, undef, undef, undef, undef, undef, undef, undef, undef, undef, undef, undef, undef, undef, undef, undef, undef, undef, undef, undef, undef, undef, undef, undef, undef, undef, undef, undef, undef, undef, undef, undef, undef, undef], defers := [] }) ?assign ?body ?done ?stop
  case assign =>
    intro l x W K hK
    gi_wp2
    exact hK
  case body =>
    rintro l pre x W ⟨⟨hI, hh, hc, hs⟩, hB⟩ hlen
    have hmx : Try.prog.follows .mixedOrders = true := by kernel_rfl
    have c1 := hh.cell
    have c2 := hc.cell
    have f1 := hh.frozen
    have f2 := hc.frozen
    gi_wp2
    refine wpIn_region_any hmx (anyR (F := Fence.wide) rfl (by kernel_rfl) ?_)
    change wpAnyIn _ _ _ _ _ _ _ _ _ (World.drew _)
    refine cutP (G := ?_) (fun fin => ?_) ?_
    rotate_left
    · skip
      refine wpAnyIn_take (i := 2) (v := ?_) rfl rfl (by kernel_rfl) (by kernel_rfl) (by kernel_rfl) (fun _ _ _ h => h) ⟨Or.inl ⟨by rfl, ?_⟩, fun _ => rfl⟩ ?_
      rotate_left
      · intro w; go_simp; try (with_reducible rfl)
      refine wpAnyIn_take (i := 3) (v := ?_) rfl rfl (by kernel_rfl) (by kernel_rfl) (by kernel_rfl) (fun _ _ _ h => h) ⟨Or.inl ⟨by rfl, ?_⟩, fun _ => rfl⟩ ?_
      rotate_left
      · intro w; go_simp; try (with_reducible rfl)
      refine wpAnyIn_ready (rs := [0, 5]) (by kernel_rfl) (by simp) (AllReadyIn.cons rfl (fun K hK => ?_) (AllReadyIn.cons rfl (fun K hK => ?_) AllReadyIn.nil))
      · go_simp
        refine hK _ _ ?_
        clear hK K
        refine wpAnyIn_take (i := 1) (v := ?_) rfl rfl (by kernel_rfl) (by kernel_rfl) (by kernel_rfl) (fun _ _ _ h => h) ⟨Or.inl ⟨by rfl, ?_⟩, fun _ => rfl⟩ ?_
        rotate_left
        · intro w; go_simp; try (with_reducible rfl)
        refine wpAnyIn_take (i := 4) (v := ?_) rfl rfl (by kernel_rfl) (by kernel_rfl) (by kernel_rfl) (fun _ _ _ h => h) ⟨Or.inl ⟨by rfl, ?_⟩, fun _ => rfl⟩ ?_
        rotate_left
        · intro w; go_simp; try (with_reducible rfl)
        refine wpAnyIn_ready (rs := [5, 7]) (by kernel_rfl) (by simp) (AllReadyIn.cons rfl (fun K hK => ?_) (AllReadyIn.cons rfl (fun K hK => ?_) AllReadyIn.nil))
        · go_simp
          refine hK _ _ ?_
          clear hK K
          refine wpAnyIn_take (i := 6) (v := ?_) rfl rfl (by kernel_rfl) (by kernel_rfl) (by kernel_rfl) (fun _ _ _ h => h) ⟨Or.inl ⟨by rfl, ?_⟩, fun _ => rfl⟩ ?_
          rotate_left
          · intro w; go_simp; try (with_reducible rfl)
          refine wpAnyIn_ready (rs := [7]) (by kernel_rfl) (by simp) (AllReadyIn.cons rfl (fun K hK => ?_) AllReadyIn.nil)
          · go_simp
            refine hK _ _ ?_
            clear hK K
            refine wpAnyIn_ready (rs := [8]) (by kernel_rfl) (by simp) (AllReadyIn.cons rfl (fun K hK => ?_) AllReadyIn.nil)
            · go_simp
              refine hK _ _ ?_
              clear hK K
              refine wpAnyIn_done (by kernel_rfl) ?_ _
              exact fin
        · go_simp
          refine hK _ _ ?_
          clear hK K
          refine wpAnyIn_ready (rs := [5]) (by kernel_rfl) (by simp) (AllReadyIn.cons rfl (fun K hK => ?_) AllReadyIn.nil)
          · go_simp
            refine hK _ _ ?_
            clear hK K
            refine wpAnyIn_take (i := 6) (v := ?_) rfl rfl (by kernel_rfl) (by kernel_rfl) (by kernel_rfl) (fun _ _ _ h => h) ⟨Or.inl ⟨by rfl, ?_⟩, fun _ => rfl⟩ ?_
            rotate_left
            · intro w; go_simp; try (with_reducible rfl)
            refine wpAnyIn_ready (rs := [8]) (by kernel_rfl) (by simp) (AllReadyIn.cons rfl (fun K hK => ?_) AllReadyIn.nil)
            · go_simp
              refine hK _ _ ?_
              clear hK K
              refine wpAnyIn_done (by kernel_rfl) ?_ _
              exact fin
      · go_simp
        refine hK _ _ ?_
        clear hK K
        refine wpAnyIn_take (i := 6) (v := ?_) rfl rfl (by kernel_rfl) (by kernel_rfl) (by kernel_rfl) (fun _ _ _ h => h) ⟨Or.inl ⟨by rfl, ?_⟩, fun _ => rfl⟩ ?_
        rotate_left
        · intro w; go_simp; try (with_reducible rfl)
        refine wpAnyIn_ready (rs := [0]) (by kernel_rfl) (by simp) (AllReadyIn.cons rfl (fun K hK => ?_) AllReadyIn.nil)
        · go_simp
          refine hK _ _ ?_
          clear hK K
          refine wpAnyIn_take (i := 1) (v := ?_) rfl rfl (by kernel_rfl) (by kernel_rfl) (by kernel_rfl) (fun _ _ _ h => h) ⟨Or.inl ⟨by rfl, ?_⟩, fun _ => rfl⟩ ?_
          rotate_left
          · intro w; go_simp; try (with_reducible rfl)
          refine wpAnyIn_take (i := 4) (v := ?_) rfl rfl (by kernel_rfl) (by kernel_rfl) (by kernel_rfl) (fun _ _ _ h => h) ⟨Or.inl ⟨by rfl, ?_⟩, fun _ => rfl⟩ ?_
          rotate_left
          · intro w; go_simp; try (with_reducible rfl)
          refine wpAnyIn_ready (rs := [7]) (by kernel_rfl) (by simp) (AllReadyIn.cons rfl (fun K hK => ?_) AllReadyIn.nil)
          · go_simp
            refine hK _ _ ?_
            clear hK K
            refine wpAnyIn_ready (rs := [8]) (by kernel_rfl) (by simp) (AllReadyIn.cons rfl (fun K hK => ?_) AllReadyIn.nil)
            · go_simp
              refine hK _ _ ?_
              clear hK K
              refine wpAnyIn_done (by kernel_rfl) ?_ _
              exact fin
    rw [or_held, cnt8]
    obtain ⟨hdr, hok⟩ := drn_start pre x
    have hlen2 := stE_len pre
    have b1 := boxed_drew ((hh.set (.int .u32 (((stE pre).1 * 256 + x.toNat : Nat) : Int))).other (B' := w.heap.size + 1 + 1) (by omega) (.int .i64 (((stE pre).2.1 + 8 : Nat) : Int)))
    have b2 := boxed_drew ((hc.other (B' := w.heap.size + 1) (by omega) (.int .u32 (((stE pre).1 * 256 + x.toNat : Nat) : Int))).set (.int .i64 (((stE pre).2.1 + 8 : Nat) : Int)))
    have b3 := boxed_drew ((hs.other (B' := w.heap.size + 1) (by omega) (.int .u32 (((stE pre).1 * 256 + x.toNat : Nat) : Int))).other (B' := w.heap.size + 1 + 1) (by omega) (.int .i64 (((stE pre).2.1 + 8 : Nat) : Int)))
    have bI := isBuilder_drew (isBuilder_box (isBuilder_box hI hh (by decide) (by decide) (.int .u32 (((stE pre).1 * 256 + x.toNat : Nat) : Int))) (hc.other (B' := w.heap.size + 1) (by omega) (.int .u32 (((stE pre).1 * 256 + x.toNat : Nat) : Int))) (by decide) (by decide) (.int .i64 (((stE pre).2.1 + 8 : Nat) : Int)))
    have bK : KeepsOthers W ((W.setCell ⟨w.heap.size + 1, 0, none⟩ (.int .u32 (((stE pre).1 * 256 + x.toNat : Nat) : Int))).setCell ⟨w.heap.size + 1 + 1, 0, none⟩ (.int .i64 (((stE pre).2.1 + 8 : Nat) : Int))).drew := keepsO_drew ((KeepsOthers.setCell _ _ _).trans (KeepsOthers.setCell _ _ _))
    have bB := below_drew ((hB.setCell (p := ⟨w.heap.size + 1, 0, none⟩) (by simp) (.int .u32 (((stE pre).1 * 256 + x.toNat : Nat) : Int))).setCell (p := ⟨w.heap.size + 1 + 1, 0, none⟩) (by simp; omega) (.int .i64 (((stE pre).2.1 + 8 : Nat) : Int)))
    obtain ⟨W1, hW1⟩ : ∃ W1, ((W.setCell ⟨w.heap.size + 1, 0, none⟩ (.int .u32 (((stE pre).1 * 256 + x.toNat : Nat) : Int))).setCell ⟨w.heap.size + 1 + 1, 0, none⟩ (.int .i64 (((stE pre).2.1 + 8 : Nat) : Int))).drew = W1 := ⟨_, rfl⟩
    rw [hW1] at b1 b2 b3 bI bK bB ⊢
    obtain ⟨h, hh'⟩ : ∃ h, (stE pre).1 * 256 + x.toNat = h := ⟨_, rfl⟩
    obtain ⟨c, hc'⟩ : ∃ c, (stE pre).2.1 + 8 = c := ⟨_, rfl⟩
    obtain ⟨out, ho'⟩ : ∃ out, (stE pre).2.2 = out := ⟨_, rfl⟩
    have hcl : c ≤ 12 := by rw [← hc']; rcases stE_ok pre with ⟨k1, k2, k3⟩ | ⟨k1, k2, k3⟩ | ⟨k1, k2, k3⟩ <;> omega
    rw [hh'] at b1 hdr hok ⊢
    rw [hc'] at b2 hdr hok ⊢
    rw [ho'] at bI hdr hlen2
    clear hW1 hh' hc' ho' c1 c2 f1 f2
    gi_wp2
    gi_loopw [17] (fun _ wr => ∃ (h c : Nat) (o : List UInt8), drn h c o = stE (pre ++ [x]) ∧ okD h c ∧ c ≤ 12 ∧ o.length + c / 6 ≤ 2 * pre.length + 2 ∧ Lib.IsBuilder 46 5 w.heap.size w.heap.size (Lib.byteCells o) wr ∧ Boxed wr (w.heap.size + 1) 57 (.int .u32 (h : Int)) ∧ Boxed wr (w.heap.size + 1 + 1) 3 (.int .i64 (c : Int)) ∧ Boxed wr (w.heap.size + 1 + 1 + 1) 9 (.string s) ∧ KeepsOthers W wr ∧ Below w.heap.size w wr) (fun _ wr => cntAt (w.heap.size + 1 + 1) wr)
    case atStart => exact ⟨h, c, out, hdr, hok, hcl, by omega, bI, b1, b2, b3, bK, bB⟩
    case round =>
      clear bI b1 b2 b3 bK bB hdr hok hcl hI hh hc hB hlen2
      obtain ⟨h, c, o, hdr, hok, hcl, hol, bI, b1, b2, b3, bK, bB⟩ := hrel
      rcases hok with ⟨rfl, hlt⟩ | ⟨rfl, hlt⟩ | ⟨rfl, hlt⟩ | ⟨rfl, hlt⟩ | hlt
      · obtain ⟨K, hK⟩ : ∃ K : Nat, h / 4 = K := ⟨_, rfl⟩
        have hK64 : K < 64 := by omega
        have hKi : (h : Int) / 4 = (K : Int) := by omega
        have hix := alpha_index K hK64 .u32
        have c1 := b1.cell
        have c2 := b2.cell
        have f1 := b1.frozen
        have f2 := b2.frozen
        have b1' := b1.other (B' := w.heap.size + 1 + 1) (by omega) (.int .i64 2)
        have b2' := b2.set (.int .i64 2)
        have b3' := b3.other (B' := w.heap.size + 1 + 1) (by omega) (.int .i64 2)
        have HI : Hid (Lib.IsBuilder 46 5 w.heap.size w.heap.size (Lib.byteCells o) (wr.setCell ⟨w.heap.size + 1 + 1, 0, none⟩ (.int .i64 2))) := isBuilder_box bI b2 (by decide) (by decide) _
        have hsz : w.heap.size ≤ (wr.setCell ⟨w.heap.size + 1 + 1, 0, none⟩ (.int .i64 2)).heap.size := (bB.setCell (p := ⟨w.heap.size + 1 + 1, 0, none⟩) (by simp; omega) (.int .i64 2)).size
        gi_wp2_with (refine ⟨trivial, ?_⟩; gi_at_call 25; refine (CallsIn.inRound l (callsIn_wide.2 (writeByte w.heap.size w.heap.size (Lib.byteCells o) ((letN K).toNat : Int) _ HI.out (by rw [Lib.byteCells_length]; omega) hsz))).mono ?_; rintro e w2 ⟨rfl, hI2, hb2, hk2⟩)
        have d1 := box_others b1' hk2 (by omega) (by decide)
        have d2 := box_others b2' hk2 (by omega) (by decide)
        have d3 := box_others b3' hk2 (by omega) (by decide)
        have dK := bK.trans ((KeepsOthers.setCell wr ⟨w.heap.size + 1 + 1, 0, none⟩ (.int .i64 2)).trans (keepsO_others HI.out hk2 hb2))
        have dB := (bB.setCell (p := ⟨w.heap.size + 1 + 1, 0, none⟩) (by simp; omega) (.int .i64 2)).trans hb2
        clear hk2 hb2 HI hsz b1' b2' b3' c1 c2 f1 f2 bK bB hix
        have c1 := d1.cell
        have c2 := d2.cell
        have f1 := d1.frozen
        refine wpIn_region_any hmx (anyR (F := Fence.wide) rfl (by kernel_rfl) ?_)
        change wpAnyIn _ _ _ _ _ _ _ _ _ (World.drew _)
        refine cutP (G := ?_) (fun fin => ?_) ?_
        rotate_left
        · skip
          refine wpAnyIn_ready (rs := [0, 1]) (by kernel_rfl) (by simp) (AllReadyIn.cons rfl (fun K hK => ?_) (AllReadyIn.cons rfl (fun K hK => ?_) AllReadyIn.nil))
          · go_simp
            refine hK _ _ ?_
            clear hK K
            refine wpAnyIn_ready (rs := [1]) (by kernel_rfl) (by simp) (AllReadyIn.cons rfl (fun K hK => ?_) AllReadyIn.nil)
            · go_simp
              refine hK _ _ ?_
              clear hK K
              refine wpAnyIn_take (i := 2) (v := ?_) rfl rfl (by kernel_rfl) (by kernel_rfl) (by kernel_rfl) (fun _ _ _ h => h) ⟨Or.inl ⟨by rfl, ?_⟩, fun _ => rfl⟩ ?_
              rotate_left
              · intro w; go_simp; try (with_reducible rfl)
              refine wpAnyIn_take (i := 3) (v := ?_) rfl rfl (by kernel_rfl) (by kernel_rfl) (by kernel_rfl) (fun _ _ _ h => h) ⟨Or.inl ⟨by rfl, ?_⟩, fun _ => rfl⟩ ?_
              rotate_left
              · intro w; go_simp; try (with_reducible rfl)
              refine wpAnyIn_take (i := 4) (v := ?_) rfl rfl (by kernel_rfl) (by kernel_rfl) (by kernel_rfl) (fun _ _ _ h => h) ⟨Or.inl ⟨by rfl, ?_⟩, fun _ => rfl⟩ ?_
              rotate_left
              · intro w; go_simp; try (with_reducible rfl)
              refine wpAnyIn_ready (rs := [5]) (by kernel_rfl) (by simp) (AllReadyIn.cons rfl (fun K hK => ?_) AllReadyIn.nil)
              · go_simp
                refine hK _ _ ?_
                clear hK K
                refine wpAnyIn_done (by kernel_rfl) ?_ _
                exact fin
          · go_simp
            refine hK _ _ ?_
            clear hK K
            refine wpAnyIn_take (i := 2) (v := ?_) rfl rfl (by kernel_rfl) (by kernel_rfl) (by kernel_rfl) (fun _ _ _ h => h) ⟨Or.inl ⟨by rfl, ?_⟩, fun _ => rfl⟩ ?_
            rotate_left
            · intro w; go_simp; try (with_reducible rfl)
            refine wpAnyIn_take (i := 3) (v := ?_) rfl rfl (by kernel_rfl) (by kernel_rfl) (by kernel_rfl) (fun _ _ _ h => h) ⟨Or.inl ⟨by rfl, ?_⟩, fun _ => rfl⟩ ?_
            rotate_left
            · intro w; go_simp; try (with_reducible rfl)
            refine wpAnyIn_ready (rs := [0]) (by kernel_rfl) (by simp) (AllReadyIn.cons rfl (fun K hK => ?_) AllReadyIn.nil)
            · go_simp
              refine hK _ _ ?_
              clear hK K
              refine wpAnyIn_take (i := 4) (v := ?_) rfl rfl (by kernel_rfl) (by kernel_rfl) (by kernel_rfl) (fun _ _ _ h => h) ⟨Or.inl ⟨by rfl, ?_⟩, fun _ => rfl⟩ ?_
              rotate_left
              · intro w; go_simp; try (with_reducible rfl)
              refine wpAnyIn_ready (rs := [5]) (by kernel_rfl) (by simp) (AllReadyIn.cons rfl (fun K hK => ?_) AllReadyIn.nil)
              · go_simp
                refine hK _ _ ?_
                clear hK K
                refine wpAnyIn_done (by kernel_rfl) ?_ _
                exact fin
        have hm : bits BinOp.and IntKind.u32 (h : Int) (IntKind.u32.wrap (IntKind.u32.wrap 4 - 1)) = ((h % 4 : Nat) : Int) := and32 2 h (by omega) (by omega)
        rw [hm]
        have R1 := boxed_drew (d1.set (.int .u32 ((h % 4 : Nat) : Int)))
        have R2 := boxed_drew (d2.other (B' := w.heap.size + 1) (by omega) (.int .u32 ((h % 4 : Nat) : Int)))
        have R3 := boxed_drew (d3.other (B' := w.heap.size + 1) (by omega) (.int .u32 ((h % 4 : Nat) : Int)))
        have RI := isBuilder_drew (isBuilder_box hI2 d1 (by decide) (by decide) (.int .u32 ((h % 4 : Nat) : Int)))
        rw [byteCells_snoc] at RI
        have RK := keepsO_drew (dK.trans (KeepsOthers.setCell w2 ⟨w.heap.size + 1, 0, none⟩ (.int .u32 ((h % 4 : Nat) : Int))))
        have RB := below_drew (dB.setCell (p := ⟨w.heap.size + 1, 0, none⟩) (by simp) (.int .u32 ((h % 4 : Nat) : Int)))
        have M1 := cntAt_box (n := 2) R2
        have M0 := cntAt_box (n := 8) b2
        have RD : drn (h % 4) 2 (o ++ [letN K]) = stE (pre ++ [x]) := by rw [← hdr, ← hK]; simp [drn]
        obtain ⟨w3, hw3⟩ : ∃ w3, (w2.setCell ⟨w.heap.size + 1, 0, none⟩ (.int .u32 ((h % 4 : Nat) : Int))).drew = w3 := ⟨_, rfl⟩
        rw [hw3] at R1 R2 R3 RI RK RB M1 ⊢
        clear hw3 hI2 d1 d2 d3 dK dB c1 c2 f1 hm b1 b2 b3 bI hKi
        gi_wp2
        go_roundw
        case rel => exact ⟨h % 4, 2, o ++ [letN K], RD, .inr (.inr (.inr (.inr (by omega)))), by omega, by simp; omega, RI, R1, R2, R3, RK, RB⟩
        case measure => rw [M0, M1]; omega
      · obtain ⟨K, hK⟩ : ∃ K : Nat, h / 16 = K := ⟨_, rfl⟩
        have hK64 : K < 64 := by omega
        have hKi : (h : Int) / 16 = (K : Int) := by omega
        have hix := alpha_index K hK64 .u32
        have c1 := b1.cell
        have c2 := b2.cell
        have f1 := b1.frozen
        have f2 := b2.frozen
        have b1' := b1.other (B' := w.heap.size + 1 + 1) (by omega) (.int .i64 4)
        have b2' := b2.set (.int .i64 4)
        have b3' := b3.other (B' := w.heap.size + 1 + 1) (by omega) (.int .i64 4)
        have HI : Hid (Lib.IsBuilder 46 5 w.heap.size w.heap.size (Lib.byteCells o) (wr.setCell ⟨w.heap.size + 1 + 1, 0, none⟩ (.int .i64 4))) := isBuilder_box bI b2 (by decide) (by decide) _
        have hsz : w.heap.size ≤ (wr.setCell ⟨w.heap.size + 1 + 1, 0, none⟩ (.int .i64 4)).heap.size := (bB.setCell (p := ⟨w.heap.size + 1 + 1, 0, none⟩) (by simp; omega) (.int .i64 4)).size
        gi_wp2_with (refine ⟨trivial, ?_⟩; gi_at_call 25; refine (CallsIn.inRound l (callsIn_wide.2 (writeByte w.heap.size w.heap.size (Lib.byteCells o) ((letN K).toNat : Int) _ HI.out (by rw [Lib.byteCells_length]; omega) hsz))).mono ?_; rintro e w2 ⟨rfl, hI2, hb2, hk2⟩)
        have d1 := box_others b1' hk2 (by omega) (by decide)
        have d2 := box_others b2' hk2 (by omega) (by decide)
        have d3 := box_others b3' hk2 (by omega) (by decide)
        have dK := bK.trans ((KeepsOthers.setCell wr ⟨w.heap.size + 1 + 1, 0, none⟩ (.int .i64 4)).trans (keepsO_others HI.out hk2 hb2))
        have dB := (bB.setCell (p := ⟨w.heap.size + 1 + 1, 0, none⟩) (by simp; omega) (.int .i64 4)).trans hb2
        clear hk2 hb2 HI hsz b1' b2' b3' c1 c2 f1 f2 bK bB hix
        have c1 := d1.cell
        have c2 := d2.cell
        have f1 := d1.frozen
        refine wpIn_region_any hmx (anyR (F := Fence.wide) rfl (by kernel_rfl) ?_)
        change wpAnyIn _ _ _ _ _ _ _ _ _ (World.drew _)
        refine cutP (G := ?_) (fun fin => ?_) ?_
        rotate_left
        · skip
          refine wpAnyIn_ready (rs := [0, 1]) (by kernel_rfl) (by simp) (AllReadyIn.cons rfl (fun K hK => ?_) (AllReadyIn.cons rfl (fun K hK => ?_) AllReadyIn.nil))
          · go_simp
            refine hK _ _ ?_
            clear hK K
            refine wpAnyIn_ready (rs := [1]) (by kernel_rfl) (by simp) (AllReadyIn.cons rfl (fun K hK => ?_) AllReadyIn.nil)
            · go_simp
              refine hK _ _ ?_
              clear hK K
              refine wpAnyIn_take (i := 2) (v := ?_) rfl rfl (by kernel_rfl) (by kernel_rfl) (by kernel_rfl) (fun _ _ _ h => h) ⟨Or.inl ⟨by rfl, ?_⟩, fun _ => rfl⟩ ?_
              rotate_left
              · intro w; go_simp; try (with_reducible rfl)
              refine wpAnyIn_take (i := 3) (v := ?_) rfl rfl (by kernel_rfl) (by kernel_rfl) (by kernel_rfl) (fun _ _ _ h => h) ⟨Or.inl ⟨by rfl, ?_⟩, fun _ => rfl⟩ ?_
              rotate_left
              · intro w; go_simp; try (with_reducible rfl)
              refine wpAnyIn_take (i := 4) (v := ?_) rfl rfl (by kernel_rfl) (by kernel_rfl) (by kernel_rfl) (fun _ _ _ h => h) ⟨Or.inl ⟨by rfl, ?_⟩, fun _ => rfl⟩ ?_
              rotate_left
              · intro w; go_simp; try (with_reducible rfl)
              refine wpAnyIn_ready (rs := [5]) (by kernel_rfl) (by simp) (AllReadyIn.cons rfl (fun K hK => ?_) AllReadyIn.nil)
              · go_simp
                refine hK _ _ ?_
                clear hK K
                refine wpAnyIn_done (by kernel_rfl) ?_ _
                exact fin
          · go_simp
            refine hK _ _ ?_
            clear hK K
            refine wpAnyIn_take (i := 2) (v := ?_) rfl rfl (by kernel_rfl) (by kernel_rfl) (by kernel_rfl) (fun _ _ _ h => h) ⟨Or.inl ⟨by rfl, ?_⟩, fun _ => rfl⟩ ?_
            rotate_left
            · intro w; go_simp; try (with_reducible rfl)
            refine wpAnyIn_take (i := 3) (v := ?_) rfl rfl (by kernel_rfl) (by kernel_rfl) (by kernel_rfl) (fun _ _ _ h => h) ⟨Or.inl ⟨by rfl, ?_⟩, fun _ => rfl⟩ ?_
            rotate_left
            · intro w; go_simp; try (with_reducible rfl)
            refine wpAnyIn_ready (rs := [0]) (by kernel_rfl) (by simp) (AllReadyIn.cons rfl (fun K hK => ?_) AllReadyIn.nil)
            · go_simp
              refine hK _ _ ?_
              clear hK K
              refine wpAnyIn_take (i := 4) (v := ?_) rfl rfl (by kernel_rfl) (by kernel_rfl) (by kernel_rfl) (fun _ _ _ h => h) ⟨Or.inl ⟨by rfl, ?_⟩, fun _ => rfl⟩ ?_
              rotate_left
              · intro w; go_simp; try (with_reducible rfl)
              refine wpAnyIn_ready (rs := [5]) (by kernel_rfl) (by simp) (AllReadyIn.cons rfl (fun K hK => ?_) AllReadyIn.nil)
              · go_simp
                refine hK _ _ ?_
                clear hK K
                refine wpAnyIn_done (by kernel_rfl) ?_ _
                exact fin
        have hm : bits BinOp.and IntKind.u32 (h : Int) (IntKind.u32.wrap (IntKind.u32.wrap 16 - 1)) = ((h % 16 : Nat) : Int) := and32 4 h (by omega) (by omega)
        rw [hm]
        have R1 := boxed_drew (d1.set (.int .u32 ((h % 16 : Nat) : Int)))
        have R2 := boxed_drew (d2.other (B' := w.heap.size + 1) (by omega) (.int .u32 ((h % 16 : Nat) : Int)))
        have R3 := boxed_drew (d3.other (B' := w.heap.size + 1) (by omega) (.int .u32 ((h % 16 : Nat) : Int)))
        have RI := isBuilder_drew (isBuilder_box hI2 d1 (by decide) (by decide) (.int .u32 ((h % 16 : Nat) : Int)))
        rw [byteCells_snoc] at RI
        have RK := keepsO_drew (dK.trans (KeepsOthers.setCell w2 ⟨w.heap.size + 1, 0, none⟩ (.int .u32 ((h % 16 : Nat) : Int))))
        have RB := below_drew (dB.setCell (p := ⟨w.heap.size + 1, 0, none⟩) (by simp) (.int .u32 ((h % 16 : Nat) : Int)))
        have M1 := cntAt_box (n := 4) R2
        have M0 := cntAt_box (n := 10) b2
        have RD : drn (h % 16) 4 (o ++ [letN K]) = stE (pre ++ [x]) := by rw [← hdr, ← hK]; simp [drn]
        obtain ⟨w3, hw3⟩ : ∃ w3, (w2.setCell ⟨w.heap.size + 1, 0, none⟩ (.int .u32 ((h % 16 : Nat) : Int))).drew = w3 := ⟨_, rfl⟩
        rw [hw3] at R1 R2 R3 RI RK RB M1 ⊢
        clear hw3 hI2 d1 d2 d3 dK dB c1 c2 f1 hm b1 b2 b3 bI hKi
        gi_wp2
        go_roundw
        case rel => exact ⟨h % 16, 4, o ++ [letN K], RD, .inr (.inr (.inr (.inr (by omega)))), by omega, by simp; omega, RI, R1, R2, R3, RK, RB⟩
        case measure => rw [M0, M1]; omega
      · obtain ⟨K, hK⟩ : ∃ K : Nat, h / 64 = K := ⟨_, rfl⟩
        have hK64 : K < 64 := by omega
        have hKi : (h : Int) / 64 = (K : Int) := by omega
        have hix := alpha_index K hK64 .u32
        have c1 := b1.cell
        have c2 := b2.cell
        have f1 := b1.frozen
        have f2 := b2.frozen
        have b1' := b1.other (B' := w.heap.size + 1 + 1) (by omega) (.int .i64 6)
        have b2' := b2.set (.int .i64 6)
        have b3' := b3.other (B' := w.heap.size + 1 + 1) (by omega) (.int .i64 6)
        have HI : Hid (Lib.IsBuilder 46 5 w.heap.size w.heap.size (Lib.byteCells o) (wr.setCell ⟨w.heap.size + 1 + 1, 0, none⟩ (.int .i64 6))) := isBuilder_box bI b2 (by decide) (by decide) _
        have hsz : w.heap.size ≤ (wr.setCell ⟨w.heap.size + 1 + 1, 0, none⟩ (.int .i64 6)).heap.size := (bB.setCell (p := ⟨w.heap.size + 1 + 1, 0, none⟩) (by simp; omega) (.int .i64 6)).size
        gi_wp2_with (refine ⟨trivial, ?_⟩; gi_at_call 25; refine (CallsIn.inRound l (callsIn_wide.2 (writeByte w.heap.size w.heap.size (Lib.byteCells o) ((letN K).toNat : Int) _ HI.out (by rw [Lib.byteCells_length]; omega) hsz))).mono ?_; rintro e w2 ⟨rfl, hI2, hb2, hk2⟩)
        have d1 := box_others b1' hk2 (by omega) (by decide)
        have d2 := box_others b2' hk2 (by omega) (by decide)
        have d3 := box_others b3' hk2 (by omega) (by decide)
        have dK := bK.trans ((KeepsOthers.setCell wr ⟨w.heap.size + 1 + 1, 0, none⟩ (.int .i64 6)).trans (keepsO_others HI.out hk2 hb2))
        have dB := (bB.setCell (p := ⟨w.heap.size + 1 + 1, 0, none⟩) (by simp; omega) (.int .i64 6)).trans hb2
        clear hk2 hb2 HI hsz b1' b2' b3' c1 c2 f1 f2 bK bB hix
        have c1 := d1.cell
        have c2 := d2.cell
        have f1 := d1.frozen
        refine wpIn_region_any hmx (anyR (F := Fence.wide) rfl (by kernel_rfl) ?_)
        change wpAnyIn _ _ _ _ _ _ _ _ _ (World.drew _)
        refine cutP (G := ?_) (fun fin => ?_) ?_
        rotate_left
        · skip
          refine wpAnyIn_ready (rs := [0, 1]) (by kernel_rfl) (by simp) (AllReadyIn.cons rfl (fun K hK => ?_) (AllReadyIn.cons rfl (fun K hK => ?_) AllReadyIn.nil))
          · go_simp
            refine hK _ _ ?_
            clear hK K
            refine wpAnyIn_ready (rs := [1]) (by kernel_rfl) (by simp) (AllReadyIn.cons rfl (fun K hK => ?_) AllReadyIn.nil)
            · go_simp
              refine hK _ _ ?_
              clear hK K
              refine wpAnyIn_take (i := 2) (v := ?_) rfl rfl (by kernel_rfl) (by kernel_rfl) (by kernel_rfl) (fun _ _ _ h => h) ⟨Or.inl ⟨by rfl, ?_⟩, fun _ => rfl⟩ ?_
              rotate_left
              · intro w; go_simp; try (with_reducible rfl)
              refine wpAnyIn_take (i := 3) (v := ?_) rfl rfl (by kernel_rfl) (by kernel_rfl) (by kernel_rfl) (fun _ _ _ h => h) ⟨Or.inl ⟨by rfl, ?_⟩, fun _ => rfl⟩ ?_
              rotate_left
              · intro w; go_simp; try (with_reducible rfl)
              refine wpAnyIn_take (i := 4) (v := ?_) rfl rfl (by kernel_rfl) (by kernel_rfl) (by kernel_rfl) (fun _ _ _ h => h) ⟨Or.inl ⟨by rfl, ?_⟩, fun _ => rfl⟩ ?_
              rotate_left
              · intro w; go_simp; try (with_reducible rfl)
              refine wpAnyIn_ready (rs := [5]) (by kernel_rfl) (by simp) (AllReadyIn.cons rfl (fun K hK => ?_) AllReadyIn.nil)
              · go_simp
                refine hK _ _ ?_
                clear hK K
                refine wpAnyIn_done (by kernel_rfl) ?_ _
                exact fin
          · go_simp
            refine hK _ _ ?_
            clear hK K
            refine wpAnyIn_take (i := 2) (v := ?_) rfl rfl (by kernel_rfl) (by kernel_rfl) (by kernel_rfl) (fun _ _ _ h => h) ⟨Or.inl ⟨by rfl, ?_⟩, fun _ => rfl⟩ ?_
            rotate_left
            · intro w; go_simp; try (with_reducible rfl)
            refine wpAnyIn_take (i := 3) (v := ?_) rfl rfl (by kernel_rfl) (by kernel_rfl) (by kernel_rfl) (fun _ _ _ h => h) ⟨Or.inl ⟨by rfl, ?_⟩, fun _ => rfl⟩ ?_
            rotate_left
            · intro w; go_simp; try (with_reducible rfl)
            refine wpAnyIn_ready (rs := [0]) (by kernel_rfl) (by simp) (AllReadyIn.cons rfl (fun K hK => ?_) AllReadyIn.nil)
            · go_simp
              refine hK _ _ ?_
              clear hK K
              refine wpAnyIn_take (i := 4) (v := ?_) rfl rfl (by kernel_rfl) (by kernel_rfl) (by kernel_rfl) (fun _ _ _ h => h) ⟨Or.inl ⟨by rfl, ?_⟩, fun _ => rfl⟩ ?_
              rotate_left
              · intro w; go_simp; try (with_reducible rfl)
              refine wpAnyIn_ready (rs := [5]) (by kernel_rfl) (by simp) (AllReadyIn.cons rfl (fun K hK => ?_) AllReadyIn.nil)
              · go_simp
                refine hK _ _ ?_
                clear hK K
                refine wpAnyIn_done (by kernel_rfl) ?_ _
                exact fin
        have hm : bits BinOp.and IntKind.u32 (h : Int) (IntKind.u32.wrap (IntKind.u32.wrap 64 - 1)) = ((h % 64 : Nat) : Int) := and32 6 h (by omega) (by omega)
        rw [hm]
        have R1 := boxed_drew (d1.set (.int .u32 ((h % 64 : Nat) : Int)))
        have R2 := boxed_drew (d2.other (B' := w.heap.size + 1) (by omega) (.int .u32 ((h % 64 : Nat) : Int)))
        have R3 := boxed_drew (d3.other (B' := w.heap.size + 1) (by omega) (.int .u32 ((h % 64 : Nat) : Int)))
        have RI := isBuilder_drew (isBuilder_box hI2 d1 (by decide) (by decide) (.int .u32 ((h % 64 : Nat) : Int)))
        rw [byteCells_snoc] at RI
        have RK := keepsO_drew (dK.trans (KeepsOthers.setCell w2 ⟨w.heap.size + 1, 0, none⟩ (.int .u32 ((h % 64 : Nat) : Int))))
        have RB := below_drew (dB.setCell (p := ⟨w.heap.size + 1, 0, none⟩) (by simp) (.int .u32 ((h % 64 : Nat) : Int)))
        have M1 := cntAt_box (n := 6) R2
        have M0 := cntAt_box (n := 12) b2
        have RD : drn (h % 64) 6 (o ++ [letN K]) = stE (pre ++ [x]) := by rw [← hdr, ← hK]; simp [drn]
        obtain ⟨w3, hw3⟩ : ∃ w3, (w2.setCell ⟨w.heap.size + 1, 0, none⟩ (.int .u32 ((h % 64 : Nat) : Int))).drew = w3 := ⟨_, rfl⟩
        rw [hw3] at R1 R2 R3 RI RK RB M1 ⊢
        clear hw3 hI2 d1 d2 d3 dK dB c1 c2 f1 hm b1 b2 b3 bI hKi
        gi_wp2
        go_roundw
        case rel => exact ⟨h % 64, 6, o ++ [letN K], RD, .inr (.inr (.inr (.inl ⟨rfl, by omega⟩))), by omega, by simp; omega, RI, R1, R2, R3, RK, RB⟩
        case measure => rw [M0, M1]; omega
      · have hK64 : h < 64 := hlt
        have hix := alpha_index h hK64 .u32
        have c1 := b1.cell
        have c2 := b2.cell
        have f1 := b1.frozen
        have f2 := b2.frozen
        have b1' := b1.other (B' := w.heap.size + 1 + 1) (by omega) (.int .i64 0)
        have b2' := b2.set (.int .i64 0)
        have b3' := b3.other (B' := w.heap.size + 1 + 1) (by omega) (.int .i64 0)
        have HI : Hid (Lib.IsBuilder 46 5 w.heap.size w.heap.size (Lib.byteCells o) (wr.setCell ⟨w.heap.size + 1 + 1, 0, none⟩ (.int .i64 0))) := isBuilder_box bI b2 (by decide) (by decide) _
        have hsz : w.heap.size ≤ (wr.setCell ⟨w.heap.size + 1 + 1, 0, none⟩ (.int .i64 0)).heap.size := (bB.setCell (p := ⟨w.heap.size + 1 + 1, 0, none⟩) (by simp; omega) (.int .i64 0)).size
        gi_wp2_with (refine ⟨trivial, ?_⟩; gi_at_call 25; refine (CallsIn.inRound l (callsIn_wide.2 (writeByte w.heap.size w.heap.size (Lib.byteCells o) ((letN h).toNat : Int) _ HI.out (by rw [Lib.byteCells_length]; omega) hsz))).mono ?_; rintro e w2 ⟨rfl, hI2, hb2, hk2⟩)
        have d1 := box_others b1' hk2 (by omega) (by decide)
        have d2 := box_others b2' hk2 (by omega) (by decide)
        have d3 := box_others b3' hk2 (by omega) (by decide)
        have dK := bK.trans ((KeepsOthers.setCell wr ⟨w.heap.size + 1 + 1, 0, none⟩ (.int .i64 0)).trans (keepsO_others HI.out hk2 hb2))
        have dB := (bB.setCell (p := ⟨w.heap.size + 1 + 1, 0, none⟩) (by simp; omega) (.int .i64 0)).trans hb2
        clear hk2 hb2 HI hsz b1' b2' b3' c1 c2 f1 f2 bK bB hix
        have c1 := d1.cell
        have c2 := d2.cell
        have f1 := d1.frozen
        refine wpIn_region_any hmx (anyR (F := Fence.wide) rfl (by kernel_rfl) ?_)
        change wpAnyIn _ _ _ _ _ _ _ _ _ (World.drew _)
        refine cutP (G := ?_) (fun fin => ?_) ?_
        rotate_left
        · skip
          refine wpAnyIn_ready (rs := [0, 1]) (by kernel_rfl) (by simp) (AllReadyIn.cons rfl (fun K hK => ?_) (AllReadyIn.cons rfl (fun K hK => ?_) AllReadyIn.nil))
          · go_simp
            refine hK _ _ ?_
            clear hK K
            refine wpAnyIn_ready (rs := [1]) (by kernel_rfl) (by simp) (AllReadyIn.cons rfl (fun K hK => ?_) AllReadyIn.nil)
            · go_simp
              refine hK _ _ ?_
              clear hK K
              refine wpAnyIn_take (i := 2) (v := ?_) rfl rfl (by kernel_rfl) (by kernel_rfl) (by kernel_rfl) (fun _ _ _ h => h) ⟨Or.inl ⟨by rfl, ?_⟩, fun _ => rfl⟩ ?_
              rotate_left
              · intro w; go_simp; try (with_reducible rfl)
              refine wpAnyIn_take (i := 3) (v := ?_) rfl rfl (by kernel_rfl) (by kernel_rfl) (by kernel_rfl) (fun _ _ _ h => h) ⟨Or.inl ⟨by rfl, ?_⟩, fun _ => rfl⟩ ?_
              rotate_left
              · intro w; go_simp; try (with_reducible rfl)
              refine wpAnyIn_take (i := 4) (v := ?_) rfl rfl (by kernel_rfl) (by kernel_rfl) (by kernel_rfl) (fun _ _ _ h => h) ⟨Or.inl ⟨by rfl, ?_⟩, fun _ => rfl⟩ ?_
              rotate_left
              · intro w; go_simp; try (with_reducible rfl)
              refine wpAnyIn_ready (rs := [5]) (by kernel_rfl) (by simp) (AllReadyIn.cons rfl (fun K hK => ?_) AllReadyIn.nil)
              · go_simp
                refine hK _ _ ?_
                clear hK K
                refine wpAnyIn_done (by kernel_rfl) ?_ _
                exact fin
          · go_simp
            refine hK _ _ ?_
            clear hK K
            refine wpAnyIn_take (i := 2) (v := ?_) rfl rfl (by kernel_rfl) (by kernel_rfl) (by kernel_rfl) (fun _ _ _ h => h) ⟨Or.inl ⟨by rfl, ?_⟩, fun _ => rfl⟩ ?_
            rotate_left
            · intro w; go_simp; try (with_reducible rfl)
            refine wpAnyIn_take (i := 3) (v := ?_) rfl rfl (by kernel_rfl) (by kernel_rfl) (by kernel_rfl) (fun _ _ _ h => h) ⟨Or.inl ⟨by rfl, ?_⟩, fun _ => rfl⟩ ?_
            rotate_left
            · intro w; go_simp; try (with_reducible rfl)
            refine wpAnyIn_ready (rs := [0]) (by kernel_rfl) (by simp) (AllReadyIn.cons rfl (fun K hK => ?_) AllReadyIn.nil)
            · go_simp
              refine hK _ _ ?_
              clear hK K
              refine wpAnyIn_take (i := 4) (v := ?_) rfl rfl (by kernel_rfl) (by kernel_rfl) (by kernel_rfl) (fun _ _ _ h => h) ⟨Or.inl ⟨by rfl, ?_⟩, fun _ => rfl⟩ ?_
              rotate_left
              · intro w; go_simp; try (with_reducible rfl)
              refine wpAnyIn_ready (rs := [5]) (by kernel_rfl) (by simp) (AllReadyIn.cons rfl (fun K hK => ?_) AllReadyIn.nil)
              · go_simp
                refine hK _ _ ?_
                clear hK K
                refine wpAnyIn_done (by kernel_rfl) ?_ _
                exact fin
        have hm : bits BinOp.and IntKind.u32 (h : Int) (IntKind.u32.wrap (IntKind.u32.wrap 1 - 1)) = ((h % 1 : Nat) : Int) := and32 0 h (by omega) (by omega)
        rw [hm]
        have R1 := boxed_drew (d1.set (.int .u32 ((h % 1 : Nat) : Int)))
        have R2 := boxed_drew (d2.other (B' := w.heap.size + 1) (by omega) (.int .u32 ((h % 1 : Nat) : Int)))
        have R3 := boxed_drew (d3.other (B' := w.heap.size + 1) (by omega) (.int .u32 ((h % 1 : Nat) : Int)))
        have RI := isBuilder_drew (isBuilder_box hI2 d1 (by decide) (by decide) (.int .u32 ((h % 1 : Nat) : Int)))
        rw [byteCells_snoc] at RI
        have RK := keepsO_drew (dK.trans (KeepsOthers.setCell w2 ⟨w.heap.size + 1, 0, none⟩ (.int .u32 ((h % 1 : Nat) : Int))))
        have RB := below_drew (dB.setCell (p := ⟨w.heap.size + 1, 0, none⟩) (by simp) (.int .u32 ((h % 1 : Nat) : Int)))
        have M1 := cntAt_box (n := 0) R2
        have M0 := cntAt_box (n := 6) b2
        have RD : drn (h % 1) 0 (o ++ [letN h]) = stE (pre ++ [x]) := by rw [← hdr]; simp [drn]; omega
        obtain ⟨w3, hw3⟩ : ∃ w3, (w2.setCell ⟨w.heap.size + 1, 0, none⟩ (.int .u32 ((h % 1 : Nat) : Int))).drew = w3 := ⟨_, rfl⟩
        rw [hw3] at R1 R2 R3 RI RK RB M1 ⊢
        clear hw3 hI2 d1 d2 d3 dK dB c1 c2 f1 hm b1 b2 b3 bI
        gi_wp2
        go_roundw
        case rel => exact ⟨h % 1, 0, o ++ [letN h], RD, .inr (.inr (.inr (.inr (by omega)))), by omega, by simp; omega, RI, R1, R2, R3, RK, RB⟩
        case measure => rw [M0, M1]; omega
      · have c2 := b2.cell
        have hli : (c : Int) < 6 := by omega
        have hE : stE (pre ++ [x]) = (h, c, o) := by rw [← hdr]; simp [drn, show ¬ c = 8 by omega, show ¬ c = 10 by omega, show ¬ c = 12 by omega, show ¬ c = 6 by omega]
        have HF : Hid (InvE w s (pre ++ [x]) wr) := by
          show InvE w s (pre ++ [x]) wr
          unfold InvE
          rw [hE]
          exact ⟨⟨bI, b1, b2, b3⟩, bB⟩
        have HBX : Hid (KeepsBox (w.heap.size + 1 + 1 + 1) W wr) := Eq.trans b3 hs.symm
        clear hE hdr
        gi_wp2
        exact ⟨bK, HBX.out, HF.out⟩
  case done =>
    rintro D ys W hD rfl ⟨⟨hI, hh, hc, hs⟩, hB⟩ hK
    have hlen2 := stE_len s.data.toList
    rw [← e_sz s] at hlen2
    have hsz := hB.size
    rcases stE_ok s.data.toList with ⟨k1, k2, k3⟩ | ⟨k1, k2, k3⟩ | ⟨k1, k2, k3⟩
    · have hfin := fin0 k1 k3
      rw [k1] at hc
      have c2 := hc.cell
      have HI : Hid (Lib.IsBuilder 46 5 w.heap.size w.heap.size (Lib.byteCells (stE s.data.toList).2.2) W) := hI
      have HX : Hid ((stE s.data.toList).2.2 ++ List.replicate ((4 - (stE s.data.toList).2.2.length % 4) % 4) 61 = toL s.data.toList) := hfin
      clear hI hfin k1 k2 k3
      gi_wp2_with fail
      gi_loopw [39] (fun _ wr => ∃ o : List UInt8, o ++ List.replicate ((4 - o.length % 4) % 4) 61 = toL s.data.toList ∧ Lib.IsBuilder 46 5 w.heap.size w.heap.size (Lib.byteCells o) wr ∧ wr.heap[D]? = some (.deferred (some [])) ∧ Below w.heap.size w wr) (fun _ wr => padAt w.heap.size wr)
      case atStart => exact ⟨_, HX.out, HI.out, hK, hB⟩
      case round =>
        clear HX HI hK hB hh hc hs c2 hsz
        obtain ⟨o, ho, hI, hK, hB⟩ := hrel
        have hol := pad_len ho
        rw [← e_sz s] at hol
        have hsz := hB.size
        have HI : Hid (Lib.IsBuilder 46 5 w.heap.size w.heap.size (Lib.byteCells o) wr) := hI
        clear hI
        by_cases h4 : o.length % 4 = 0
        · have hq : (((o.length : Int) % 4) != 0) = false := by simp; omega
          have HE : Hid (o = toL s.data.toList) := pad_end ho h4
          clear ho
          gi_wp2_with (first
            | (refine ⟨trivial, ?_⟩; gi_at_call 26; refine (callsIn_wide.2 (lenB _ _ _ _ HI.out)).mono ?_; rintro e w2 ⟨rfl, rfl⟩)
            | (refine ⟨trivial, ?_⟩; gi_at_call 23; refine (callsIn_wide.2 (Try.Builder_String_any_k _ _ _ _ (Lib.IsBuilderF.of HI.out) hsz)).mono ?_; rintro e w3 ⟨rfl, _, hb3, hk3⟩))
          have hK3 := other_others hK hk3 (by omega) rfl
          refine ⟨by simp, .inl ⟨_, _, rfl, run_takeDeferred hK3, ?_⟩⟩
          exact ⟨_, results_tmp rfl _ _ _, by rw [← HE.out]; rfl, (hB.trans hb3).trans (belowK_b (w := w) (Nat.le_refl _) w3 D _ _ (by omega) hK3 rfl rfl)⟩
        · have hq : (((o.length : Int) % 4) != 0) = true := by simp; omega
          have HP : Hid ((o ++ [61]) ++ List.replicate ((4 - (o ++ [61]).length % 4) % 4) 61 = toL s.data.toList) := pad_snoc ho h4
          clear ho
          gi_wp2_with (first
            | (refine ⟨trivial, ?_⟩; gi_at_call 26; refine (callsIn_wide.2 (lenB _ _ _ _ HI.out)).mono ?_; rintro e w2 ⟨rfl, rfl⟩)
            | (refine ⟨trivial, ?_⟩; gi_at_call 21; refine (callsIn_wide.2 (writeString _ _ _ ⟨#[61]⟩ _ HI.out (by rw [Lib.byteCells_length]; show _ + 1 ≤ _; omega) hsz)).mono ?_; rintro e w3 ⟨rfl, hI3, hb3, hk3⟩))
          have hI4 : Lib.IsBuilder 46 5 w.heap.size w.heap.size (Lib.byteCells (o ++ [61])) w3 := by rw [byteCells_app]; exact hI3
          have M0 := padAt_eq HI.out
          have M1 := padAt_eq hI4
          rw [Lib.byteCells_length] at M0 M1
          rw [List.length_append, List.length_singleton] at M1
          go_roundw
          case rel => exact ⟨o ++ [61], HP.out, hI4, other_others hK hk3 (by omega) rfl, hB.trans hb3⟩
          case measure => rw [M0, M1]; omega
    · have hfin := fin2 k1 k3
      rw [k1] at hc
      have c1 := hh.cell
      have c2 := hc.cell
      obtain ⟨K, hK'⟩ : ∃ K : Nat, (stE s.data.toList).1 * 16 = K := ⟨_, rfl⟩
      have hK64 : K < 64 := by omega
      have hKi : IntKind.u32.wrap (((stE s.data.toList).1 : Int) * 16) = (K : Int) := by rw [← hK']; exact u32_in ((stE s.data.toList).1 * 16) (by omega)
      have hix := alpha_index K hK64 .u32
      rw [hK'] at hfin
      have HI : Hid (Lib.IsBuilder 46 5 w.heap.size w.heap.size (Lib.byteCells (stE s.data.toList).2.2) W) := hI
      have HX : Hid (((stE s.data.toList).2.2 ++ [letN K]) ++ List.replicate ((4 - ((stE s.data.toList).2.2 ++ [letN K]).length % 4) % 4) 61 = toL s.data.toList) := hfin
      clear hI hfin k1 k2 k3 hK'
      gi_wp2_with (refine ⟨trivial, ?_⟩; gi_at_call 25; refine (callsIn_wide.2 (writeByte _ _ _ ((letN K).toNat : Int) _ HI.out (by rw [Lib.byteCells_length]; omega) hsz)).mono ?_; rintro e w2 ⟨rfl, hI2, hb2, hk2⟩)
      rw [byteCells_snoc] at hI2
      gi_loopw [39] (fun _ wr => ∃ o : List UInt8, o ++ List.replicate ((4 - o.length % 4) % 4) 61 = toL s.data.toList ∧ Lib.IsBuilder 46 5 w.heap.size w.heap.size (Lib.byteCells o) wr ∧ wr.heap[D]? = some (.deferred (some [])) ∧ Below w.heap.size w wr) (fun _ wr => padAt w.heap.size wr)
      case atStart => exact ⟨_, HX.out, hI2, other_others hK hk2 (by omega) rfl, hB.trans hb2⟩
      case round =>
        clear HX HI hK hB hh hc hs c1 c2 hsz hix hKi hI2 hb2 hk2
        obtain ⟨o, ho, hI, hK, hB⟩ := hrel
        have hol := pad_len ho
        rw [← e_sz s] at hol
        have hsz := hB.size
        have HI : Hid (Lib.IsBuilder 46 5 w.heap.size w.heap.size (Lib.byteCells o) wr) := hI
        clear hI
        by_cases h4 : o.length % 4 = 0
        · have hq : (((o.length : Int) % 4) != 0) = false := by simp; omega
          have HE : Hid (o = toL s.data.toList) := pad_end ho h4
          clear ho
          gi_wp2_with (first
            | (refine ⟨trivial, ?_⟩; gi_at_call 26; refine (callsIn_wide.2 (lenB _ _ _ _ HI.out)).mono ?_; rintro e w2 ⟨rfl, rfl⟩)
            | (refine ⟨trivial, ?_⟩; gi_at_call 23; refine (callsIn_wide.2 (Try.Builder_String_any_k _ _ _ _ (Lib.IsBuilderF.of HI.out) hsz)).mono ?_; rintro e w3 ⟨rfl, _, hb3, hk3⟩))
          have hK3 := other_others hK hk3 (by omega) rfl
          refine ⟨by simp, .inl ⟨_, _, rfl, run_takeDeferred hK3, ?_⟩⟩
          exact ⟨_, results_tmp rfl _ _ _, by rw [← HE.out]; rfl, (hB.trans hb3).trans (belowK_b (w := w) (Nat.le_refl _) w3 D _ _ (by omega) hK3 rfl rfl)⟩
        · have hq : (((o.length : Int) % 4) != 0) = true := by simp; omega
          have HP : Hid ((o ++ [61]) ++ List.replicate ((4 - (o ++ [61]).length % 4) % 4) 61 = toL s.data.toList) := pad_snoc ho h4
          clear ho
          gi_wp2_with (first
            | (refine ⟨trivial, ?_⟩; gi_at_call 26; refine (callsIn_wide.2 (lenB _ _ _ _ HI.out)).mono ?_; rintro e w2 ⟨rfl, rfl⟩)
            | (refine ⟨trivial, ?_⟩; gi_at_call 21; refine (callsIn_wide.2 (writeString _ _ _ ⟨#[61]⟩ _ HI.out (by rw [Lib.byteCells_length]; show _ + 1 ≤ _; omega) hsz)).mono ?_; rintro e w3 ⟨rfl, hI3, hb3, hk3⟩))
          have hI4 : Lib.IsBuilder 46 5 w.heap.size w.heap.size (Lib.byteCells (o ++ [61])) w3 := by rw [byteCells_app]; exact hI3
          have M0 := padAt_eq HI.out
          have M1 := padAt_eq hI4
          rw [Lib.byteCells_length] at M0 M1
          rw [List.length_append, List.length_singleton] at M1
          go_roundw
          case rel => exact ⟨o ++ [61], HP.out, hI4, other_others hK hk3 (by omega) rfl, hB.trans hb3⟩
          case measure => rw [M0, M1]; omega
    · have hfin := fin4 k1 k3
      rw [k1] at hc
      have c1 := hh.cell
      have c2 := hc.cell
      obtain ⟨K, hK'⟩ : ∃ K : Nat, (stE s.data.toList).1 * 4 = K := ⟨_, rfl⟩
      have hK64 : K < 64 := by omega
      have hKi : IntKind.u32.wrap (((stE s.data.toList).1 : Int) * 4) = (K : Int) := by rw [← hK']; exact u32_in ((stE s.data.toList).1 * 4) (by omega)
      have hix := alpha_index K hK64 .u32
      rw [hK'] at hfin
      have HI : Hid (Lib.IsBuilder 46 5 w.heap.size w.heap.size (Lib.byteCells (stE s.data.toList).2.2) W) := hI
      have HX : Hid (((stE s.data.toList).2.2 ++ [letN K]) ++ List.replicate ((4 - ((stE s.data.toList).2.2 ++ [letN K]).length % 4) % 4) 61 = toL s.data.toList) := hfin
      clear hI hfin k1 k2 k3 hK'
      gi_wp2_with (refine ⟨trivial, ?_⟩; gi_at_call 25; refine (callsIn_wide.2 (writeByte _ _ _ ((letN K).toNat : Int) _ HI.out (by rw [Lib.byteCells_length]; omega) hsz)).mono ?_; rintro e w2 ⟨rfl, hI2, hb2, hk2⟩)
      rw [byteCells_snoc] at hI2
      gi_loopw [39] (fun _ wr => ∃ o : List UInt8, o ++ List.replicate ((4 - o.length % 4) % 4) 61 = toL s.data.toList ∧ Lib.IsBuilder 46 5 w.heap.size w.heap.size (Lib.byteCells o) wr ∧ wr.heap[D]? = some (.deferred (some [])) ∧ Below w.heap.size w wr) (fun _ wr => padAt w.heap.size wr)
      case atStart => exact ⟨_, HX.out, hI2, other_others hK hk2 (by omega) rfl, hB.trans hb2⟩
      case round =>
        clear HX HI hK hB hh hc hs c1 c2 hsz hix hKi hI2 hb2 hk2
        obtain ⟨o, ho, hI, hK, hB⟩ := hrel
        have hol := pad_len ho
        rw [← e_sz s] at hol
        have hsz := hB.size
        have HI : Hid (Lib.IsBuilder 46 5 w.heap.size w.heap.size (Lib.byteCells o) wr) := hI
        clear hI
        by_cases h4 : o.length % 4 = 0
        · have hq : (((o.length : Int) % 4) != 0) = false := by simp; omega
          have HE : Hid (o = toL s.data.toList) := pad_end ho h4
          clear ho
          gi_wp2_with (first
            | (refine ⟨trivial, ?_⟩; gi_at_call 26; refine (callsIn_wide.2 (lenB _ _ _ _ HI.out)).mono ?_; rintro e w2 ⟨rfl, rfl⟩)
            | (refine ⟨trivial, ?_⟩; gi_at_call 23; refine (callsIn_wide.2 (Try.Builder_String_any_k _ _ _ _ (Lib.IsBuilderF.of HI.out) hsz)).mono ?_; rintro e w3 ⟨rfl, _, hb3, hk3⟩))
          have hK3 := other_others hK hk3 (by omega) rfl
          refine ⟨by simp, .inl ⟨_, _, rfl, run_takeDeferred hK3, ?_⟩⟩
          exact ⟨_, results_tmp rfl _ _ _, by rw [← HE.out]; rfl, (hB.trans hb3).trans (belowK_b (w := w) (Nat.le_refl _) w3 D _ _ (by omega) hK3 rfl rfl)⟩
        · have hq : (((o.length : Int) % 4) != 0) = true := by simp; omega
          have HP : Hid ((o ++ [61]) ++ List.replicate ((4 - (o ++ [61]).length % 4) % 4) 61 = toL s.data.toList) := pad_snoc ho h4
          clear ho
          gi_wp2_with (first
            | (refine ⟨trivial, ?_⟩; gi_at_call 26; refine (callsIn_wide.2 (lenB _ _ _ _ HI.out)).mono ?_; rintro e w2 ⟨rfl, rfl⟩)
            | (refine ⟨trivial, ?_⟩; gi_at_call 21; refine (callsIn_wide.2 (writeString _ _ _ ⟨#[61]⟩ _ HI.out (by rw [Lib.byteCells_length]; show _ + 1 ≤ _; omega) hsz)).mono ?_; rintro e w3 ⟨rfl, hI3, hb3, hk3⟩))
          have hI4 : Lib.IsBuilder 46 5 w.heap.size w.heap.size (Lib.byteCells (o ++ [61])) w3 := by rw [byteCells_app]; exact hI3
          have M0 := padAt_eq HI.out
          have M1 := padAt_eq hI4
          rw [Lib.byteCells_length] at M0 M1
          rw [List.length_append, List.length_singleton] at M1
          go_roundw
          case rel => exact ⟨o ++ [61], HP.out, hI4, other_others hK hk3 (by omega) rfl, hB.trans hb3⟩
          case measure => rw [M0, M1]; omega
  case stop =>
    rintro D c pre W _ _ h _
    exact h.elim

end Go.Proofs.Ytcjeodgfpnecgaa
