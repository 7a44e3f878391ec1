/- Contract of wholeBytes: letters alone are read into whole bytes, or it is said that one is none. -/
import Derived.Test.YtgnphekelklchaaDoorIter
import Derived.Test.YtgnphekelklchaaDoorMathD
import Derived.Test.YtgnphekelklchaaDoorKit
import Derived.Test.YtgnphekelklchaaDoorBits
import Derived.Test.YtgnphekelklchaaDoorRoundR
import Derived.Test.YtgnphekelklchaaDoorShelf
import Derived.Test.YtgnphekelklchaaDoorBuilder
import Derived.Test.YtgnphekelklchaaDoorEncI
namespace Go.Proofs.YtgnphekelklchaaDoor
open Go.RowKit Go.Shelf
attribute [local go_sem] Oper.semAt_some
set_option linter.unusedVariables false
set_option linter.unusedSimpArgs false

def outL (r : Option (List UInt8)) : List UInt8 := r.getD []

/-- Between two rounds: nothing is answered yet, the builder holds the bytes, two boxes the bits held and their count, one the text. -/
def InvW (w : World) (s : ByteArray) (pre : List UInt8) (W : World) : Prop :=
  (allL pre = true ∧ Boxed W w.heap.size 9 (.string ⟨#[]⟩) ∧ Boxed W (w.heap.size + 1) 4 (.bool false) ∧ Lib.IsBuilder 37 5 (w.heap.size + 1 + 1) (w.heap.size + 1 + 1) (Lib.byteCells (stD pre).2.2) W ∧ Boxed W (w.heap.size + 1 + 1 + 1) 38 (.int .u32 ((stD pre).1 : Int)) ∧ Boxed W (w.heap.size + 1 + 1 + 1 + 1) 3 (.int .i64 ((stD pre).2.1 : Int)) ∧ Boxed W (w.heap.size + 1 + 1 + 1 + 1 + 1) 9 (.string s)) ∧ Below w.heap.size w W

/-- A round has left: a byte is no letter. -/
def InvX (w : World) (c : Code) (pre : List UInt8) (W : World) : Prop :=
  (c = .ret ∧ (∃ p x, pre = p ++ [x] ∧ valN x < 0) ∧ Boxed W w.heap.size 9 (.string ⟨#[]⟩) ∧ Boxed W (w.heap.size + 1) 4 (.bool false)) ∧ Below w.heap.size w W

theorem invW_own (w : World) (s : ByteArray) (w4 : World) (h : w.heap.size ≤ w4.heap.size) : OwnFrom w4.heap.size (InvW w s) :=
  OwnFrom.and (Own.from (fun pre A B row hs hg hr => ⟨hs.1, boxed_own _ _ (fun _ : List UInt8 => .string ⟨#[]⟩) pre A B row hs.2.1 hg hr, boxed_own _ _ (fun _ : List UInt8 => .bool false) pre A B row hs.2.2.1 hg hr, isBuilder_grown hs.2.2.2.1 hg hr, boxed_own _ _ (fun l : List UInt8 => .int .u32 ((stD l).1 : Int)) pre A B row hs.2.2.2.2.1 hg hr, boxed_own _ _ (fun l : List UInt8 => .int .i64 ((stD l).2.1 : Int)) pre A B row hs.2.2.2.2.2.1 hg hr, boxed_own _ _ (fun _ : List UInt8 => .string s) pre A B row hs.2.2.2.2.2.2 hg hr⟩) _) (ownFrom_below (Nat.le_refl _) h)

theorem invX_own (w : World) (c : Code) (w4 : World) (h : w.heap.size ≤ w4.heap.size) : OwnFrom w4.heap.size (InvX w c) :=
  OwnFrom.and (Own.from (fun pre A B row hs hg hr => ⟨hs.1, hs.2.1, boxed_own _ _ (fun _ : List UInt8 => .string ⟨#[]⟩) pre A B row hs.2.2.1 hg hr, boxed_own _ _ (fun _ : List UInt8 => .bool false) pre A B row hs.2.2.2 hg hr⟩) _) (ownFrom_below (Nat.le_refl _) h)

theorem or_heldW (l : List UInt8) (v : Nat) (hv : v < 64) : bits BinOp.or IntKind.u32 (IntKind.u32.wrap (((stD l).1 : Int) * 64)) (IntKind.u32.wrap (v : Int)) = (((stD l).1 * 64 + v : Nat) : Int) := by
  have hh : (stD l).1 < 64 := by rcases stD_ok l with ⟨k1, k2⟩ | ⟨k1, k2⟩ | ⟨k1, k2⟩ | ⟨k1, k2⟩ <;> omega
  have e1 : ((stD l).1 : Int) * 64 = ((2 ^ 6 * (stD l).1 : Nat) : Int) := by omega
  rw [e1, u32_in _ (by omega), u32_in _ (by omega), or32_add 6 _ _ (by omega) (by omega)]
  congr 1
  omega

theorem cnt6 (l : List UInt8) : IntKind.i64.wrap (((stD l).2.1 : Int) + 6) = (((stD l).2.1 + 6 : Nat) : Int) := by
  have hh : (stD l).2.1 ≤ 6 := by rcases stD_ok l with ⟨k1, k2⟩ | ⟨k1, k2⟩ | ⟨k1, k2⟩ | ⟨k1, k2⟩ <;> omega
  have := IntWalk.i64_in (((stD l).2.1 : Int) + 6) (by omega)
  rw [this]
  omega

theorem u8_in (x : Nat) (h : x < 256) : IntKind.u8.wrap (x : Int) = ((UInt8.ofNat x).toNat : Int) := by
  rw [UInt8.toNat_ofNat_of_lt' (by exact h)]
  simp [IntKind.wrap, IntKind.bits, IntKind.signed]
  omega

theorem whole_no {l pre : List UInt8} (hp : pre <+: l) (h : ∃ p x, pre = p ++ [x] ∧ valN x < 0) : wholeL l = none := by
  obtain ⟨p, x, rfl, hx⟩ := h
  unfold wholeL
  rw [allL_no hp hx]
  rfl

theorem whole_yes {l : List UInt8} (h : allL l = true) : wholeL l = some (stD l).2.2 := by
  unfold wholeL
  rw [h]
  rfl

set_option maxRecDepth 100000 in
set_option maxHeartbeats 4000000 in
theorem cWhole (s : ByteArray) (w : World) (h0 : s.size ≤ 1048576) :
    Calls Tryd.prog 27 #[.string s] w fun e w' => e = .returned (.tuple #[.string ⟨(outL (wholeL s.data.toList)).toArray⟩, .bool (wholeL s.data.toList).isSome]) ∧ Below w.heap.size w w' := by
  refine (callsIn_wide (n := 3)).1 ?_
  refine callsIn_of_wp_marks Tryd.func27 rfl trivial ?_ rfl
  simp only [Tryd.ntmps27, List.size_toArray, List.length_cons, List.length_nil, Nat.reduceAdd, Nat.reduceSub, Array.replicate_succ, Array.replicate_zero, List.push_toArray, List.append_toArray, List.nil_append, List.cons_append]
  gi_wp2_with (refine ⟨trivial, ?_⟩; gi_at_call 20; refine (iter_in Fence.wide _ trivial rfl s _).mono ?_; rintro e w' ⟨rfl, rfl⟩)
  have hB0 : Below w.heap.size w ((((((w.alloc (.cells #[.string ⟨#[]⟩] 9)).alloc (.cells #[.bool false] 4)).alloc (.cells #[.pointer none, .slice none 0 0] 37)).alloc (.cells #[.int .u32 0] 38)).alloc (.cells #[.int .i64 0] 3)).alloc (.cells #[.string s] 9)) := ((((((Below.refl _ w).alloc (Nat.le_refl _) _).alloc (by simp) _).alloc (by simp; omega) _).alloc (by simp; omega) _).alloc (by simp; omega) _).alloc (by simp; omega) _
  have hi0 : InvW w s [] ((((((w.alloc (.cells #[.string ⟨#[]⟩] 9)).alloc (.cells #[.bool false] 4)).alloc (.cells #[.pointer none, .slice none 0 0] 37)).alloc (.cells #[.int .u32 0] 38)).alloc (.cells #[.int .i64 0] 3)).alloc (.cells #[.string s] 9)) := by
    refine ⟨⟨rfl, ?_, ?_, ?_, ?_, ?_, ?_⟩, hB0⟩
    · have := Boxed.new w 9 (.string ⟨#[]⟩)
      try simp only [World.size_alloc] at this
      exact (((((this.alloc _).alloc _).alloc _).alloc _).alloc _)
    · have := Boxed.new (w.alloc (.cells #[.string ⟨#[]⟩] 9)) 4 (.bool false)
      try simp only [World.size_alloc] at this
      exact ((((this.alloc _).alloc _).alloc _).alloc _)
    · have := Lib.fresh_isBuilder 37 5 ((w.alloc (.cells #[.string ⟨#[]⟩] 9)).alloc (.cells #[.bool false] 4))
      try simp only [World.size_alloc] at this
      exact isBuilder_below (isBuilder_below (isBuilder_below this ((Below.refl _ _).alloc (Nat.le_refl _) _)) ((Below.refl _ _).alloc (Nat.le_refl _) _)) ((Below.refl _ _).alloc (Nat.le_refl _) _)
    · have := Boxed.new (((w.alloc (.cells #[.string ⟨#[]⟩] 9)).alloc (.cells #[.bool false] 4)).alloc (.cells #[.pointer none, .slice none 0 0] 37)) 38 (.int .u32 0)
      try simp only [World.size_alloc] at this
      exact ((this.alloc _).alloc _)
    · have := Boxed.new ((((w.alloc (.cells #[.string ⟨#[]⟩] 9)).alloc (.cells #[.bool false] 4)).alloc (.cells #[.pointer none, .slice none 0 0] 37)).alloc (.cells #[.int .u32 0] 38)) 3 (.int .i64 0)
      try simp only [World.size_alloc] at this
      exact (this.alloc _)
    · have := Boxed.new (((((w.alloc (.cells #[.string ⟨#[]⟩] 9)).alloc (.cells #[.bool false] 4)).alloc (.cells #[.pointer none, .slice none 0 0] 37)).alloc (.cells #[.int .u32 0] 38)).alloc (.cells #[.int .i64 0] 3)) 9 (.string s)
      try simp only [World.size_alloc] at this
      exact this
  obtain ⟨w4, hw4⟩ : ∃ w4, ((((((w.alloc (.cells #[.string ⟨#[]⟩] 9)).alloc (.cells #[.bool false] 4)).alloc (.cells #[.pointer none, .slice none 0 0] 37)).alloc (.cells #[.int .u32 0] 38)).alloc (.cells #[.int .i64 0] 3)).alloc (.cells #[.string s] 9)) = w4 := ⟨_, rfl⟩
  have hs4 : w4.heap.size = w.heap.size + 6 := by rw [← hw4]; simp
  rw [hw4] at hB0 hi0 ⊢
  clear hw4
  refine wpIn_rangeFunc_ownF rfl (by omega) (gf := 35) (lb := #[.pointer (some ⟨w.heap.size + 1 + 1 + 1 + 1 + 1, 0, none⟩)]) rfl trivial (enters_of Tryd.func35 (by kernel_rfl) rfl)
    (iter_stops Fence.wide _ trivial rfl (by omega) (w.heap.size + 1 + 1 + 1 + 1 + 1) s (by omega) w4 hi0.1.2.2.2.2.2.2) keepsBox_t (keepsBox_b (by omega)) (Below.refl _ _) (fun _ => rfl)
    (InvW w s)
    (InvX w)
    (invW_own w s w4 (by omega))
    (fun c => invX_own w c w4 (by omega))
    hi0
    (fun x => { tmps := #[.string s, undef, .pointer (some ⟨w.heap.size, 0, none⟩), .pointer (some ⟨w.heap.size + 1, 0, none⟩), .pointer (some ⟨w.heap.size + 1 + 1, 0, none⟩), .pointer (some ⟨w.heap.size + 1 + 1 + 1, 0, none⟩), .pointer (some ⟨w.heap.size + 1 + 1 + 1 + 1, 0, none⟩), .int .u8 (x.toNat : Int), undef, .string s, .func (.func 35) #[] #[.pointer (some ⟨w.heap.size + 1 + 1 + 1 + 1 + 1, 0, none⟩)], .int .u8 (x.toNat : Int), undef, undef, undef, undef, undef, undef, undef, undef, undef, undef, undef, undef, undef, undef, undef, undef, undef, undef, undef, undef, undef, undef, undef, undef, undef, undef], defers := [] }) ?assign ?body ?done ?stop
  case assign =>
    intro l x W K hK
    gi_wp2
    exact hK
  case body =>
    rintro l pre x W ⟨⟨hal, hr0, hr1, hI, hh, hc, hs⟩, hB⟩ hlen
    have hmx : Tryd.prog.follows .mixedOrders = true := by kernel_rfl
    have HI0 : Hid (Lib.IsBuilder 37 5 (w.heap.size + 1 + 1) (w.heap.size + 1 + 1) (Lib.byteCells (stD pre).2.2) W) := hI
    clear hI
    by_cases hneg : valN x < 0
    · have hdec : decide (valN x < 0) = true := decide_eq_true hneg
      have g0 := hr0.cell
      have g1 := hr1.cell
      have f0 := hr0.frozen
      have f1 := hr1.frozen
      gi_wp2_with (refine ⟨trivial, ?_⟩; gi_at_call 33; refine (CallsIn.inRound l (callsIn_wide.2 (cVB x _))).mono ?_; rintro e w2 ⟨rfl, rfl⟩)
      refine ⟨(KeepsOthers.setCell _ _ _).trans (KeepsOthers.setCell _ _ _), ⟨rfl, ⟨pre, x, rfl, hneg⟩, ?_, ?_⟩, ?_⟩
      · exact (hr0.set _).other (by omega) _
      · exact (hr1.other (by omega) _).set _
      · exact (hB.setCell (p := ⟨w.heap.size, 0, none⟩) (by simp) _).setCell (p := ⟨w.heap.size + 1, 0, none⟩) (by simp) _
    · obtain ⟨v, hv⟩ : ∃ v : Nat, valN x = (v : Int) := ⟨(valN x).toNat, by omega⟩
      have hv64 : v < 64 := by have := val_lt x; omega
      have C := fun w => cVB x w
      rw [hv] at C
      have c1 := hh.cell
      have c2 := hc.cell
      have f1 := hh.frozen
      have f2 := hc.frozen
      have hlen2 := stD_len pre
      have hvn : (valN x).toNat = v := by omega
      have hsn := stD_snoc pre x
      rw [hvn] at hsn
      have hal2 : allL (pre ++ [x]) = true := by rw [allL_snoc, hal, hv]; simp
      clear hneg hv hvn
      gi_wp2_with (refine ⟨trivial, ?_⟩; gi_at_call 33; refine (CallsIn.inRound l (callsIn_wide.2 (C _))).mono ?_; rintro e w2 ⟨rfl, rfl⟩)
      refine wpIn_region_any hmx (anyR (F := Fence.wide) rfl (by kernel_rfl) ?_)
      change wpAnyIn _ _ _ _ _ _ _ _ _ (World.drew _)
      refine cutP (G := ?_) (fun fin => ?_) ?_
      rotate_left
      · skip
        refine wpAnyIn_take (i := 2) (v := ?_) rfl rfl (by kernel_rfl) (by kernel_rfl) (by kernel_rfl) (fun _ _ _ h => h) ⟨Or.inl ⟨by rfl, ?_⟩, fun _ => rfl⟩ ?_
        rotate_left
        · intro w; go_simp; try (with_reducible rfl)
        refine wpAnyIn_take (i := 3) (v := ?_) rfl rfl (by kernel_rfl) (by kernel_rfl) (by kernel_rfl) (fun _ _ _ h => h) ⟨Or.inl ⟨by rfl, ?_⟩, fun _ => rfl⟩ ?_
        rotate_left
        · intro w; go_simp; try (with_reducible rfl)
        refine wpAnyIn_ready (rs := [0, 5]) (by kernel_rfl) (by simp) (AllReadyIn.cons rfl (fun K hK => ?_) (AllReadyIn.cons rfl (fun K hK => ?_) AllReadyIn.nil))
        · go_simp
          refine hK _ _ ?_
          clear hK K
          refine wpAnyIn_take (i := 1) (v := ?_) rfl rfl (by kernel_rfl) (by kernel_rfl) (by kernel_rfl) (fun _ _ _ h => h) ⟨Or.inl ⟨by rfl, ?_⟩, fun _ => rfl⟩ ?_
          rotate_left
          · intro w; go_simp; try (with_reducible rfl)
          refine wpAnyIn_take (i := 4) (v := ?_) rfl rfl (by kernel_rfl) (by kernel_rfl) (by kernel_rfl) (fun _ _ _ h => h) ⟨Or.inl ⟨by rfl, ?_⟩, fun _ => rfl⟩ ?_
          rotate_left
          · intro w; go_simp; try (with_reducible rfl)
          refine wpAnyIn_ready (rs := [5, 7]) (by kernel_rfl) (by simp) (AllReadyIn.cons rfl (fun K hK => ?_) (AllReadyIn.cons rfl (fun K hK => ?_) AllReadyIn.nil))
          · go_simp
            refine hK _ _ ?_
            clear hK K
            refine wpAnyIn_take (i := 6) (v := ?_) rfl rfl (by kernel_rfl) (by kernel_rfl) (by kernel_rfl) (fun _ _ _ h => h) ⟨Or.inl ⟨by rfl, ?_⟩, fun _ => rfl⟩ ?_
            rotate_left
            · intro w; go_simp; try (with_reducible rfl)
            refine wpAnyIn_ready (rs := [7]) (by kernel_rfl) (by simp) (AllReadyIn.cons rfl (fun K hK => ?_) AllReadyIn.nil)
            · go_simp
              refine hK _ _ ?_
              clear hK K
              refine wpAnyIn_ready (rs := [8]) (by kernel_rfl) (by simp) (AllReadyIn.cons rfl (fun K hK => ?_) AllReadyIn.nil)
              · go_simp
                refine hK _ _ ?_
                clear hK K
                refine wpAnyIn_done (by kernel_rfl) ?_ _
                exact fin
          · go_simp
            refine hK _ _ ?_
            clear hK K
            refine wpAnyIn_ready (rs := [5]) (by kernel_rfl) (by simp) (AllReadyIn.cons rfl (fun K hK => ?_) AllReadyIn.nil)
            · go_simp
              refine hK _ _ ?_
              clear hK K
              refine wpAnyIn_take (i := 6) (v := ?_) rfl rfl (by kernel_rfl) (by kernel_rfl) (by kernel_rfl) (fun _ _ _ h => h) ⟨Or.inl ⟨by rfl, ?_⟩, fun _ => rfl⟩ ?_
              rotate_left
              · intro w; go_simp; try (with_reducible rfl)
              refine wpAnyIn_ready (rs := [8]) (by kernel_rfl) (by simp) (AllReadyIn.cons rfl (fun K hK => ?_) AllReadyIn.nil)
              · go_simp
                refine hK _ _ ?_
                clear hK K
                refine wpAnyIn_done (by kernel_rfl) ?_ _
                exact fin
        · go_simp
          refine hK _ _ ?_
          clear hK K
          refine wpAnyIn_take (i := 6) (v := ?_) rfl rfl (by kernel_rfl) (by kernel_rfl) (by kernel_rfl) (fun _ _ _ h => h) ⟨Or.inl ⟨by rfl, ?_⟩, fun _ => rfl⟩ ?_
          rotate_left
          · intro w; go_simp; try (with_reducible rfl)
          refine wpAnyIn_ready (rs := [0]) (by kernel_rfl) (by simp) (AllReadyIn.cons rfl (fun K hK => ?_) AllReadyIn.nil)
          · go_simp
            refine hK _ _ ?_
            clear hK K
            refine wpAnyIn_take (i := 1) (v := ?_) rfl rfl (by kernel_rfl) (by kernel_rfl) (by kernel_rfl) (fun _ _ _ h => h) ⟨Or.inl ⟨by rfl, ?_⟩, fun _ => rfl⟩ ?_
            rotate_left
            · intro w; go_simp; try (with_reducible rfl)
            refine wpAnyIn_take (i := 4) (v := ?_) rfl rfl (by kernel_rfl) (by kernel_rfl) (by kernel_rfl) (fun _ _ _ h => h) ⟨Or.inl ⟨by rfl, ?_⟩, fun _ => rfl⟩ ?_
            rotate_left
            · intro w; go_simp; try (with_reducible rfl)
            refine wpAnyIn_ready (rs := [7]) (by kernel_rfl) (by simp) (AllReadyIn.cons rfl (fun K hK => ?_) AllReadyIn.nil)
            · go_simp
              refine hK _ _ ?_
              clear hK K
              refine wpAnyIn_ready (rs := [8]) (by kernel_rfl) (by simp) (AllReadyIn.cons rfl (fun K hK => ?_) AllReadyIn.nil)
              · go_simp
                refine hK _ _ ?_
                clear hK K
                refine wpAnyIn_done (by kernel_rfl) ?_ _
                exact fin
      rw [or_heldW _ _ hv64, cnt6]
      have b1 := boxed_drew ((hh.set (.int .u32 (((stD pre).1 * 64 + v : Nat) : Int))).other (B' := w.heap.size + 1 + 1 + 1 + 1) (by omega) (.int .i64 (((stD pre).2.1 + 6 : Nat) : Int)))
      have b2 := boxed_drew ((hc.other (B' := w.heap.size + 1 + 1 + 1) (by omega) (.int .u32 (((stD pre).1 * 64 + v : Nat) : Int))).set (.int .i64 (((stD pre).2.1 + 6 : Nat) : Int)))
      have b3 := boxed_drew ((hs.other (B' := w.heap.size + 1 + 1 + 1) (by omega) (.int .u32 (((stD pre).1 * 64 + v : Nat) : Int))).other (B' := w.heap.size + 1 + 1 + 1 + 1) (by omega) (.int .i64 (((stD pre).2.1 + 6 : Nat) : Int)))
      have b4 := boxed_drew ((hr0.other (B' := w.heap.size + 1 + 1 + 1) (by omega) (.int .u32 (((stD pre).1 * 64 + v : Nat) : Int))).other (B' := w.heap.size + 1 + 1 + 1 + 1) (by omega) (.int .i64 (((stD pre).2.1 + 6 : Nat) : Int)))
      have b5 := boxed_drew ((hr1.other (B' := w.heap.size + 1 + 1 + 1) (by omega) (.int .u32 (((stD pre).1 * 64 + v : Nat) : Int))).other (B' := w.heap.size + 1 + 1 + 1 + 1) (by omega) (.int .i64 (((stD pre).2.1 + 6 : Nat) : Int)))
      have bI := isBuilder_drew (isBuilder_box (isBuilder_box HI0.out hh (by decide) (by decide) (.int .u32 (((stD pre).1 * 64 + v : Nat) : Int))) (hc.other (B' := w.heap.size + 1 + 1 + 1) (by omega) (.int .u32 (((stD pre).1 * 64 + v : Nat) : Int))) (by decide) (by decide) (.int .i64 (((stD pre).2.1 + 6 : Nat) : Int)))
      have bK : KeepsOthers w2 ((w2.setCell ⟨w.heap.size + 1 + 1 + 1, 0, none⟩ (.int .u32 (((stD pre).1 * 64 + v : Nat) : Int))).setCell ⟨w.heap.size + 1 + 1 + 1 + 1, 0, none⟩ (.int .i64 (((stD pre).2.1 + 6 : Nat) : Int))).drew := keepsO_drew ((KeepsOthers.setCell _ _ _).trans (KeepsOthers.setCell _ _ _))
      have bB := below_drew ((hB.setCell (p := ⟨w.heap.size + 1 + 1 + 1, 0, none⟩) (by simp; omega) (.int .u32 (((stD pre).1 * 64 + v : Nat) : Int))).setCell (p := ⟨w.heap.size + 1 + 1 + 1 + 1, 0, none⟩) (by simp; omega) (.int .i64 (((stD pre).2.1 + 6 : Nat) : Int)))
      obtain ⟨W1, hW1⟩ : ∃ W1, ((w2.setCell ⟨w.heap.size + 1 + 1 + 1, 0, none⟩ (.int .u32 (((stD pre).1 * 64 + v : Nat) : Int))).setCell ⟨w.heap.size + 1 + 1 + 1 + 1, 0, none⟩ (.int .i64 (((stD pre).2.1 + 6 : Nat) : Int))).drew = W1 := ⟨_, rfl⟩
      rw [hW1] at b1 b2 b3 b4 b5 bI bK bB ⊢
      have hok := stD_ok pre
      obtain ⟨h, hh'⟩ : ∃ h, (stD pre).1 * 64 + v = h := ⟨_, rfl⟩
      obtain ⟨out, ho'⟩ : ∃ out, (stD pre).2.2 = out := ⟨_, rfl⟩
      rw [hh'] at b1 ⊢
      rw [ho'] at bI hlen2
      have HBX : Hid (KeepsBox (w.heap.size + 1 + 1 + 1 + 1 + 1) w2 W1) := Eq.trans b3 hs.symm
      clear hW1 c1 c2 f1 f2 HI0 hr0 hr1 hh hc hB
      rcases hok with ⟨k1, k2⟩ | ⟨k1, k2⟩ | ⟨k1, k2⟩ | ⟨k1, k2⟩
      · rw [k1] at b2 ⊢
        have c2 := b2.cell
        have HF : Hid (InvW w s (pre ++ [x]) W1) := by
          show InvW w s (pre ++ [x]) W1
          unfold InvW
          rw [hsn]
          have e : stepD (stD pre) v = (v, 6, out) := by unfold stepD; rw [if_pos k1, ho']
          have hv' : h = v := by rw [← hh', k2]; omega
          rw [e, ← hv']
          exact ⟨⟨hal2, b4, b5, bI, b1, b2, b3⟩, bB⟩
        clear hsn k1 k2 hh' ho'
        gi_wp2
        exact ⟨bK, HBX.out, HF.out⟩
      · rw [k1] at b2 ⊢
        obtain ⟨K, hK⟩ : ∃ K : Nat, h / 16 = K := ⟨_, rfl⟩
        have hK256 : K < 256 := by omega
        have hKi : (h : Int) / 16 = (K : Int) := by omega
        have hh32 : h < 4096 := by omega
        have hcv := u8_in K hK256
        have hE : stD (pre ++ [x]) = (h % 16, 4, out ++ [UInt8.ofNat K]) := by
          rw [hsn]
          unfold stepD
          rw [if_neg (by omega), if_pos k1, hh', ho', hK]
        clear hsn k1 k2 hh' ho' hK
        have c1 := b1.cell
        have c2 := b2.cell
        have f1 := b1.frozen
        have f2 := b2.frozen
        have b1' := b1.other (B' := w.heap.size + 1 + 1 + 1 + 1) (by omega) (.int .i64 4)
        have b2' := b2.set (.int .i64 4)
        have b3' := b3.other (B' := w.heap.size + 1 + 1 + 1 + 1) (by omega) (.int .i64 4)
        have b4' := b4.other (B' := w.heap.size + 1 + 1 + 1 + 1) (by omega) (.int .i64 4)
        have b5' := b5.other (B' := w.heap.size + 1 + 1 + 1 + 1) (by omega) (.int .i64 4)
        have HI : Hid (Lib.IsBuilder 37 5 (w.heap.size + 1 + 1) (w.heap.size + 1 + 1) (Lib.byteCells out) (W1.setCell ⟨w.heap.size + 1 + 1 + 1 + 1, 0, none⟩ (.int .i64 4))) := isBuilder_box bI b2 (by decide) (by decide) _
        have hB4 := bB.setCell (p := ⟨w.heap.size + 1 + 1 + 1 + 1, 0, none⟩) (by simp; omega) (.int .i64 4)
        have hsz : w.heap.size + 1 + 1 ≤ (W1.setCell ⟨w.heap.size + 1 + 1 + 1 + 1, 0, none⟩ (.int .i64 4)).heap.size := by have := b2'.lt; omega
        gi_wp2_with (refine ⟨trivial, ?_⟩; gi_at_call 21; refine (CallsIn.inRound l (callsIn_wide.2 (writeByte (w.heap.size + 1 + 1) (w.heap.size + 1 + 1) (Lib.byteCells out) ((UInt8.ofNat K).toNat : Int) _ HI.out (by rw [Lib.byteCells_length]; omega) hsz))).mono ?_; rintro e w3 ⟨rfl, hI2, hb2, hk2⟩)
        have d1 := box_others b1' hk2 (by omega) (by decide)
        have d2 := box_others b2' hk2 (by omega) (by decide)
        have d3 := box_others b3' hk2 (by omega) (by decide)
        have d4 := box_others b4' hk2 (by omega) (by decide)
        have d5 := box_others b5' hk2 (by omega) (by decide)
        have dK := bK.trans ((KeepsOthers.setCell W1 ⟨w.heap.size + 1 + 1 + 1 + 1, 0, none⟩ (.int .i64 4)).trans (keepsO_others HI.out hk2 hb2))
        have dB := hB4.trans (hb2.mono (by omega))
        clear hk2 hb2 HI hsz b1' b2' b3' b4' b5' c1 c2 f1 f2 bK bB hcv hB4
        have c1 := d1.cell
        have c2 := d2.cell
        have f1 := d1.frozen
        refine wpIn_region_any hmx (anyR (F := Fence.wide) rfl (by kernel_rfl) ?_)
        change wpAnyIn _ _ _ _ _ _ _ _ _ (World.drew _)
        refine cutP (G := ?_) (fun fin => ?_) ?_
        rotate_left
        · skip
          refine wpAnyIn_ready (rs := [0, 1]) (by kernel_rfl) (by simp) (AllReadyIn.cons rfl (fun K hK => ?_) (AllReadyIn.cons rfl (fun K hK => ?_) AllReadyIn.nil))
          · go_simp
            refine hK _ _ ?_
            clear hK K
            refine wpAnyIn_ready (rs := [1]) (by kernel_rfl) (by simp) (AllReadyIn.cons rfl (fun K hK => ?_) AllReadyIn.nil)
            · go_simp
              refine hK _ _ ?_
              clear hK K
              refine wpAnyIn_take (i := 2) (v := ?_) rfl rfl (by kernel_rfl) (by kernel_rfl) (by kernel_rfl) (fun _ _ _ h => h) ⟨Or.inl ⟨by rfl, ?_⟩, fun _ => rfl⟩ ?_
              rotate_left
              · intro w; go_simp; try (with_reducible rfl)
              refine wpAnyIn_take (i := 3) (v := ?_) rfl rfl (by kernel_rfl) (by kernel_rfl) (by kernel_rfl) (fun _ _ _ h => h) ⟨Or.inl ⟨by rfl, ?_⟩, fun _ => rfl⟩ ?_
              rotate_left
              · intro w; go_simp; try (with_reducible rfl)
              refine wpAnyIn_take (i := 4) (v := ?_) rfl rfl (by kernel_rfl) (by kernel_rfl) (by kernel_rfl) (fun _ _ _ h => h) ⟨Or.inl ⟨by rfl, ?_⟩, fun _ => rfl⟩ ?_
              rotate_left
              · intro w; go_simp; try (with_reducible rfl)
              refine wpAnyIn_ready (rs := [5]) (by kernel_rfl) (by simp) (AllReadyIn.cons rfl (fun K hK => ?_) AllReadyIn.nil)
              · go_simp
                refine hK _ _ ?_
                clear hK K
                refine wpAnyIn_done (by kernel_rfl) ?_ _
                exact fin
          · go_simp
            refine hK _ _ ?_
            clear hK K
            refine wpAnyIn_take (i := 2) (v := ?_) rfl rfl (by kernel_rfl) (by kernel_rfl) (by kernel_rfl) (fun _ _ _ h => h) ⟨Or.inl ⟨by rfl, ?_⟩, fun _ => rfl⟩ ?_
            rotate_left
            · intro w; go_simp; try (with_reducible rfl)
            refine wpAnyIn_take (i := 3) (v := ?_) rfl rfl (by kernel_rfl) (by kernel_rfl) (by kernel_rfl) (fun _ _ _ h => h) ⟨Or.inl ⟨by rfl, ?_⟩, fun _ => rfl⟩ ?_
            rotate_left
            · intro w; go_simp; try (with_reducible rfl)
            refine wpAnyIn_ready (rs := [0]) (by kernel_rfl) (by simp) (AllReadyIn.cons rfl (fun K hK => ?_) AllReadyIn.nil)
            · go_simp
              refine hK _ _ ?_
              clear hK K
              refine wpAnyIn_take (i := 4) (v := ?_) rfl rfl (by kernel_rfl) (by kernel_rfl) (by kernel_rfl) (fun _ _ _ h => h) ⟨Or.inl ⟨by rfl, ?_⟩, fun _ => rfl⟩ ?_
              rotate_left
              · intro w; go_simp; try (with_reducible rfl)
              refine wpAnyIn_ready (rs := [5]) (by kernel_rfl) (by simp) (AllReadyIn.cons rfl (fun K hK => ?_) AllReadyIn.nil)
              · go_simp
                refine hK _ _ ?_
                clear hK K
                refine wpAnyIn_done (by kernel_rfl) ?_ _
                exact fin
        have hm : bits BinOp.and IntKind.u32 (h : Int) (IntKind.u32.wrap (IntKind.u32.wrap 16 - 1)) = ((h % 16 : Nat) : Int) := and32 4 h (by omega) (by omega)
        rw [hm]
        have R1 := boxed_drew (d1.set (.int .u32 ((h % 16 : Nat) : Int)))
        have R2 := boxed_drew (d2.other (B' := w.heap.size + 1 + 1 + 1) (by omega) (.int .u32 ((h % 16 : Nat) : Int)))
        have R3 := boxed_drew (d3.other (B' := w.heap.size + 1 + 1 + 1) (by omega) (.int .u32 ((h % 16 : Nat) : Int)))
        have R4 := boxed_drew (d4.other (B' := w.heap.size + 1 + 1 + 1) (by omega) (.int .u32 ((h % 16 : Nat) : Int)))
        have R5 := boxed_drew (d5.other (B' := w.heap.size + 1 + 1 + 1) (by omega) (.int .u32 ((h % 16 : Nat) : Int)))
        have RI := isBuilder_drew (isBuilder_box hI2 d1 (by decide) (by decide) (.int .u32 ((h % 16 : Nat) : Int)))
        rw [byteCells_snoc] at RI
        have RK := keepsO_drew (dK.trans (KeepsOthers.setCell w3 ⟨w.heap.size + 1 + 1 + 1, 0, none⟩ (.int .u32 ((h % 16 : Nat) : Int))))
        have RB := below_drew (dB.setCell (p := ⟨w.heap.size + 1 + 1 + 1, 0, none⟩) (by simp; omega) (.int .u32 ((h % 16 : Nat) : Int)))
        obtain ⟨w4', hw4'⟩ : ∃ w4', (w3.setCell ⟨w.heap.size + 1 + 1 + 1, 0, none⟩ (.int .u32 ((h % 16 : Nat) : Int))).drew = w4' := ⟨_, rfl⟩
        rw [hw4'] at R1 R2 R3 R4 R5 RI RK RB ⊢
        have HBX2 : Hid (KeepsBox (w.heap.size + 1 + 1 + 1 + 1 + 1) w2 w4') := Eq.trans R3 hs.symm
        have HF : Hid (InvW w s (pre ++ [x]) w4') := by
          show InvW w s (pre ++ [x]) w4'
          unfold InvW
          rw [hE]
          exact ⟨⟨hal2, R4, R5, RI, R1, R2, R3⟩, RB⟩
        clear hw4' hI2 d1 d2 d3 d4 d5 dK dB c1 c2 f1 hm b1 b2 b3 b4 b5 bI hKi hE
        gi_wp2
        exact ⟨RK, HBX2.out, HF.out⟩
      · rw [k1] at b2 ⊢
        obtain ⟨K, hK⟩ : ∃ K : Nat, h / 4 = K := ⟨_, rfl⟩
        have hK256 : K < 256 := by omega
        have hKi : (h : Int) / 4 = (K : Int) := by omega
        have hh32 : h < 4096 := by omega
        have hcv := u8_in K hK256
        have hE : stD (pre ++ [x]) = (h % 4, 2, out ++ [UInt8.ofNat K]) := by
          rw [hsn]
          unfold stepD
          rw [if_neg (by omega), if_neg (by omega), if_pos k1, hh', ho', hK]
        clear hsn k1 k2 hh' ho' hK
        have c1 := b1.cell
        have c2 := b2.cell
        have f1 := b1.frozen
        have f2 := b2.frozen
        have b1' := b1.other (B' := w.heap.size + 1 + 1 + 1 + 1) (by omega) (.int .i64 2)
        have b2' := b2.set (.int .i64 2)
        have b3' := b3.other (B' := w.heap.size + 1 + 1 + 1 + 1) (by omega) (.int .i64 2)
        have b4' := b4.other (B' := w.heap.size + 1 + 1 + 1 + 1) (by omega) (.int .i64 2)
        have b5' := b5.other (B' := w.heap.size + 1 + 1 + 1 + 1) (by omega) (.int .i64 2)
        have HI : Hid (Lib.IsBuilder 37 5 (w.heap.size + 1 + 1) (w.heap.size + 1 + 1) (Lib.byteCells out) (W1.setCell ⟨w.heap.size + 1 + 1 + 1 + 1, 0, none⟩ (.int .i64 2))) := isBuilder_box bI b2 (by decide) (by decide) _
        have hB4 := bB.setCell (p := ⟨w.heap.size + 1 + 1 + 1 + 1, 0, none⟩) (by simp; omega) (.int .i64 2)
        have hsz : w.heap.size + 1 + 1 ≤ (W1.setCell ⟨w.heap.size + 1 + 1 + 1 + 1, 0, none⟩ (.int .i64 2)).heap.size := by have := b2'.lt; omega
        gi_wp2_with (refine ⟨trivial, ?_⟩; gi_at_call 21; refine (CallsIn.inRound l (callsIn_wide.2 (writeByte (w.heap.size + 1 + 1) (w.heap.size + 1 + 1) (Lib.byteCells out) ((UInt8.ofNat K).toNat : Int) _ HI.out (by rw [Lib.byteCells_length]; omega) hsz))).mono ?_; rintro e w3 ⟨rfl, hI2, hb2, hk2⟩)
        have d1 := box_others b1' hk2 (by omega) (by decide)
        have d2 := box_others b2' hk2 (by omega) (by decide)
        have d3 := box_others b3' hk2 (by omega) (by decide)
        have d4 := box_others b4' hk2 (by omega) (by decide)
        have d5 := box_others b5' hk2 (by omega) (by decide)
        have dK := bK.trans ((KeepsOthers.setCell W1 ⟨w.heap.size + 1 + 1 + 1 + 1, 0, none⟩ (.int .i64 2)).trans (keepsO_others HI.out hk2 hb2))
        have dB := hB4.trans (hb2.mono (by omega))
        clear hk2 hb2 HI hsz b1' b2' b3' b4' b5' c1 c2 f1 f2 bK bB hcv hB4
        have c1 := d1.cell
        have c2 := d2.cell
        have f1 := d1.frozen
        refine wpIn_region_any hmx (anyR (F := Fence.wide) rfl (by kernel_rfl) ?_)
        change wpAnyIn _ _ _ _ _ _ _ _ _ (World.drew _)
        refine cutP (G := ?_) (fun fin => ?_) ?_
        rotate_left
        · skip
          refine wpAnyIn_ready (rs := [0, 1]) (by kernel_rfl) (by simp) (AllReadyIn.cons rfl (fun K hK => ?_) (AllReadyIn.cons rfl (fun K hK => ?_) AllReadyIn.nil))
          · go_simp
            refine hK _ _ ?_
            clear hK K
            refine wpAnyIn_ready (rs := [1]) (by kernel_rfl) (by simp) (AllReadyIn.cons rfl (fun K hK => ?_) AllReadyIn.nil)
            · go_simp
              refine hK _ _ ?_
              clear hK K
              refine wpAnyIn_take (i := 2) (v := ?_) rfl rfl (by kernel_rfl) (by kernel_rfl) (by kernel_rfl) (fun _ _ _ h => h) ⟨Or.inl ⟨by rfl, ?_⟩, fun _ => rfl⟩ ?_
              rotate_left
              · intro w; go_simp; try (with_reducible rfl)
              refine wpAnyIn_take (i := 3) (v := ?_) rfl rfl (by kernel_rfl) (by kernel_rfl) (by kernel_rfl) (fun _ _ _ h => h) ⟨Or.inl ⟨by rfl, ?_⟩, fun _ => rfl⟩ ?_
              rotate_left
              · intro w; go_simp; try (with_reducible rfl)
              refine wpAnyIn_take (i := 4) (v := ?_) rfl rfl (by kernel_rfl) (by kernel_rfl) (by kernel_rfl) (fun _ _ _ h => h) ⟨Or.inl ⟨by rfl, ?_⟩, fun _ => rfl⟩ ?_
              rotate_left
              · intro w; go_simp; try (with_reducible rfl)
              refine wpAnyIn_ready (rs := [5]) (by kernel_rfl) (by simp) (AllReadyIn.cons rfl (fun K hK => ?_) AllReadyIn.nil)
              · go_simp
                refine hK _ _ ?_
                clear hK K
                refine wpAnyIn_done (by kernel_rfl) ?_ _
                exact fin
          · go_simp
            refine hK _ _ ?_
            clear hK K
            refine wpAnyIn_take (i := 2) (v := ?_) rfl rfl (by kernel_rfl) (by kernel_rfl) (by kernel_rfl) (fun _ _ _ h => h) ⟨Or.inl ⟨by rfl, ?_⟩, fun _ => rfl⟩ ?_
            rotate_left
            · intro w; go_simp; try (with_reducible rfl)
            refine wpAnyIn_take (i := 3) (v := ?_) rfl rfl (by kernel_rfl) (by kernel_rfl) (by kernel_rfl) (fun _ _ _ h => h) ⟨Or.inl ⟨by rfl, ?_⟩, fun _ => rfl⟩ ?_
            rotate_left
            · intro w; go_simp; try (with_reducible rfl)
            refine wpAnyIn_ready (rs := [0]) (by kernel_rfl) (by simp) (AllReadyIn.cons rfl (fun K hK => ?_) AllReadyIn.nil)
            · go_simp
              refine hK _ _ ?_
              clear hK K
              refine wpAnyIn_take (i := 4) (v := ?_) rfl rfl (by kernel_rfl) (by kernel_rfl) (by kernel_rfl) (fun _ _ _ h => h) ⟨Or.inl ⟨by rfl, ?_⟩, fun _ => rfl⟩ ?_
              rotate_left
              · intro w; go_simp; try (with_reducible rfl)
              refine wpAnyIn_ready (rs := [5]) (by kernel_rfl) (by simp) (AllReadyIn.cons rfl (fun K hK => ?_) AllReadyIn.nil)
              · go_simp
                refine hK _ _ ?_
                clear hK K
                refine wpAnyIn_done (by kernel_rfl) ?_ _
                exact fin
        have hm : bits BinOp.and IntKind.u32 (h : Int) (IntKind.u32.wrap (IntKind.u32.wrap 4 - 1)) = ((h % 4 : Nat) : Int) := and32 2 h (by omega) (by omega)
        rw [hm]
        have R1 := boxed_drew (d1.set (.int .u32 ((h % 4 : Nat) : Int)))
        have R2 := boxed_drew (d2.other (B' := w.heap.size + 1 + 1 + 1) (by omega) (.int .u32 ((h % 4 : Nat) : Int)))
        have R3 := boxed_drew (d3.other (B' := w.heap.size + 1 + 1 + 1) (by omega) (.int .u32 ((h % 4 : Nat) : Int)))
        have R4 := boxed_drew (d4.other (B' := w.heap.size + 1 + 1 + 1) (by omega) (.int .u32 ((h % 4 : Nat) : Int)))
        have R5 := boxed_drew (d5.other (B' := w.heap.size + 1 + 1 + 1) (by omega) (.int .u32 ((h % 4 : Nat) : Int)))
        have RI := isBuilder_drew (isBuilder_box hI2 d1 (by decide) (by decide) (.int .u32 ((h % 4 : Nat) : Int)))
        rw [byteCells_snoc] at RI
        have RK := keepsO_drew (dK.trans (KeepsOthers.setCell w3 ⟨w.heap.size + 1 + 1 + 1, 0, none⟩ (.int .u32 ((h % 4 : Nat) : Int))))
        have RB := below_drew (dB.setCell (p := ⟨w.heap.size + 1 + 1 + 1, 0, none⟩) (by simp; omega) (.int .u32 ((h % 4 : Nat) : Int)))
        obtain ⟨w4', hw4'⟩ : ∃ w4', (w3.setCell ⟨w.heap.size + 1 + 1 + 1, 0, none⟩ (.int .u32 ((h % 4 : Nat) : Int))).drew = w4' := ⟨_, rfl⟩
        rw [hw4'] at R1 R2 R3 R4 R5 RI RK RB ⊢
        have HBX2 : Hid (KeepsBox (w.heap.size + 1 + 1 + 1 + 1 + 1) w2 w4') := Eq.trans R3 hs.symm
        have HF : Hid (InvW w s (pre ++ [x]) w4') := by
          show InvW w s (pre ++ [x]) w4'
          unfold InvW
          rw [hE]
          exact ⟨⟨hal2, R4, R5, RI, R1, R2, R3⟩, RB⟩
        clear hw4' hI2 d1 d2 d3 d4 d5 dK dB c1 c2 f1 hm b1 b2 b3 b4 b5 bI hKi hE
        gi_wp2
        exact ⟨RK, HBX2.out, HF.out⟩
      · rw [k1] at b2 ⊢
        have hK256 : h < 256 := by omega
        have hh32 : h < 4096 := by omega
        have hcv := u8_in h hK256
        have hE : stD (pre ++ [x]) = (h % 1, 0, out ++ [UInt8.ofNat h]) := by
          rw [hsn]
          unfold stepD
          rw [if_neg (by omega), if_neg (by omega), if_neg (by omega), hh', ho', Nat.mod_one]
        clear hsn k1 k2 hh' ho'
        have c1 := b1.cell
        have c2 := b2.cell
        have f1 := b1.frozen
        have f2 := b2.frozen
        have b1' := b1.other (B' := w.heap.size + 1 + 1 + 1 + 1) (by omega) (.int .i64 0)
        have b2' := b2.set (.int .i64 0)
        have b3' := b3.other (B' := w.heap.size + 1 + 1 + 1 + 1) (by omega) (.int .i64 0)
        have b4' := b4.other (B' := w.heap.size + 1 + 1 + 1 + 1) (by omega) (.int .i64 0)
        have b5' := b5.other (B' := w.heap.size + 1 + 1 + 1 + 1) (by omega) (.int .i64 0)
        have HI : Hid (Lib.IsBuilder 37 5 (w.heap.size + 1 + 1) (w.heap.size + 1 + 1) (Lib.byteCells out) (W1.setCell ⟨w.heap.size + 1 + 1 + 1 + 1, 0, none⟩ (.int .i64 0))) := isBuilder_box bI b2 (by decide) (by decide) _
        have hB4 := bB.setCell (p := ⟨w.heap.size + 1 + 1 + 1 + 1, 0, none⟩) (by simp; omega) (.int .i64 0)
        have hsz : w.heap.size + 1 + 1 ≤ (W1.setCell ⟨w.heap.size + 1 + 1 + 1 + 1, 0, none⟩ (.int .i64 0)).heap.size := by have := b2'.lt; omega
        gi_wp2_with (refine ⟨trivial, ?_⟩; gi_at_call 21; refine (CallsIn.inRound l (callsIn_wide.2 (writeByte (w.heap.size + 1 + 1) (w.heap.size + 1 + 1) (Lib.byteCells out) ((UInt8.ofNat h).toNat : Int) _ HI.out (by rw [Lib.byteCells_length]; omega) hsz))).mono ?_; rintro e w3 ⟨rfl, hI2, hb2, hk2⟩)
        have d1 := box_others b1' hk2 (by omega) (by decide)
        have d2 := box_others b2' hk2 (by omega) (by decide)
        have d3 := box_others b3' hk2 (by omega) (by decide)
        have d4 := box_others b4' hk2 (by omega) (by decide)
        have d5 := box_others b5' hk2 (by omega) (by decide)
        have dK := bK.trans ((KeepsOthers.setCell W1 ⟨w.heap.size + 1 + 1 + 1 + 1, 0, none⟩ (.int .i64 0)).trans (keepsO_others HI.out hk2 hb2))
        have dB := hB4.trans (hb2.mono (by omega))
        clear hk2 hb2 HI hsz b1' b2' b3' b4' b5' c1 c2 f1 f2 bK bB hcv hB4
        have c1 := d1.cell
        have c2 := d2.cell
        have f1 := d1.frozen
        refine wpIn_region_any hmx (anyR (F := Fence.wide) rfl (by kernel_rfl) ?_)
        change wpAnyIn _ _ _ _ _ _ _ _ _ (World.drew _)
        refine cutP (G := ?_) (fun fin => ?_) ?_
        rotate_left
        · skip
          refine wpAnyIn_ready (rs := [0, 1]) (by kernel_rfl) (by simp) (AllReadyIn.cons rfl (fun K hK => ?_) (AllReadyIn.cons rfl (fun K hK => ?_) AllReadyIn.nil))
          · go_simp
            refine hK _ _ ?_
            clear hK K
            refine wpAnyIn_ready (rs := [1]) (by kernel_rfl) (by simp) (AllReadyIn.cons rfl (fun K hK => ?_) AllReadyIn.nil)
            · go_simp
              refine hK _ _ ?_
              clear hK K
              refine wpAnyIn_take (i := 2) (v := ?_) rfl rfl (by kernel_rfl) (by kernel_rfl) (by kernel_rfl) (fun _ _ _ h => h) ⟨Or.inl ⟨by rfl, ?_⟩, fun _ => rfl⟩ ?_
              rotate_left
              · intro w; go_simp; try (with_reducible rfl)
              refine wpAnyIn_take (i := 3) (v := ?_) rfl rfl (by kernel_rfl) (by kernel_rfl) (by kernel_rfl) (fun _ _ _ h => h) ⟨Or.inl ⟨by rfl, ?_⟩, fun _ => rfl⟩ ?_
              rotate_left
              · intro w; go_simp; try (with_reducible rfl)
              refine wpAnyIn_take (i := 4) (v := ?_) rfl rfl (by kernel_rfl) (by kernel_rfl) (by kernel_rfl) (fun _ _ _ h => h) ⟨Or.inl ⟨by rfl, ?_⟩, fun _ => rfl⟩ ?_
              rotate_left
              · intro w; go_simp; try (with_reducible rfl)
              refine wpAnyIn_ready (rs := [5]) (by kernel_rfl) (by simp) (AllReadyIn.cons rfl (fun K hK => ?_) AllReadyIn.nil)
              · go_simp
                refine hK _ _ ?_
                clear hK K
                refine wpAnyIn_done (by kernel_rfl) ?_ _
                exact fin
          · go_simp
            refine hK _ _ ?_
            clear hK K
            refine wpAnyIn_take (i := 2) (v := ?_) rfl rfl (by kernel_rfl) (by kernel_rfl) (by kernel_rfl) (fun _ _ _ h => h) ⟨Or.inl ⟨by rfl, ?_⟩, fun _ => rfl⟩ ?_
            rotate_left
            · intro w; go_simp; try (with_reducible rfl)
            refine wpAnyIn_take (i := 3) (v := ?_) rfl rfl (by kernel_rfl) (by kernel_rfl) (by kernel_rfl) (fun _ _ _ h => h) ⟨Or.inl ⟨by rfl, ?_⟩, fun _ => rfl⟩ ?_
            rotate_left
            · intro w; go_simp; try (with_reducible rfl)
            refine wpAnyIn_ready (rs := [0]) (by kernel_rfl) (by simp) (AllReadyIn.cons rfl (fun K hK => ?_) AllReadyIn.nil)
            · go_simp
              refine hK _ _ ?_
              clear hK K
              refine wpAnyIn_take (i := 4) (v := ?_) rfl rfl (by kernel_rfl) (by kernel_rfl) (by kernel_rfl) (fun _ _ _ h => h) ⟨Or.inl ⟨by rfl, ?_⟩, fun _ => rfl⟩ ?_
              rotate_left
              · intro w; go_simp; try (with_reducible rfl)
              refine wpAnyIn_ready (rs := [5]) (by kernel_rfl) (by simp) (AllReadyIn.cons rfl (fun K hK => ?_) AllReadyIn.nil)
              · go_simp
                refine hK _ _ ?_
                clear hK K
                refine wpAnyIn_done (by kernel_rfl) ?_ _
                exact fin
        have hm : bits BinOp.and IntKind.u32 (h : Int) (IntKind.u32.wrap (IntKind.u32.wrap 1 - 1)) = ((h % 1 : Nat) : Int) := and32 0 h (by omega) (by omega)
        rw [hm]
        have R1 := boxed_drew (d1.set (.int .u32 ((h % 1 : Nat) : Int)))
        have R2 := boxed_drew (d2.other (B' := w.heap.size + 1 + 1 + 1) (by omega) (.int .u32 ((h % 1 : Nat) : Int)))
        have R3 := boxed_drew (d3.other (B' := w.heap.size + 1 + 1 + 1) (by omega) (.int .u32 ((h % 1 : Nat) : Int)))
        have R4 := boxed_drew (d4.other (B' := w.heap.size + 1 + 1 + 1) (by omega) (.int .u32 ((h % 1 : Nat) : Int)))
        have R5 := boxed_drew (d5.other (B' := w.heap.size + 1 + 1 + 1) (by omega) (.int .u32 ((h % 1 : Nat) : Int)))
        have RI := isBuilder_drew (isBuilder_box hI2 d1 (by decide) (by decide) (.int .u32 ((h % 1 : Nat) : Int)))
        rw [byteCells_snoc] at RI
        have RK := keepsO_drew (dK.trans (KeepsOthers.setCell w3 ⟨w.heap.size + 1 + 1 + 1, 0, none⟩ (.int .u32 ((h % 1 : Nat) : Int))))
        have RB := below_drew (dB.setCell (p := ⟨w.heap.size + 1 + 1 + 1, 0, none⟩) (by simp; omega) (.int .u32 ((h % 1 : Nat) : Int)))
        obtain ⟨w4', hw4'⟩ : ∃ w4', (w3.setCell ⟨w.heap.size + 1 + 1 + 1, 0, none⟩ (.int .u32 ((h % 1 : Nat) : Int))).drew = w4' := ⟨_, rfl⟩
        rw [hw4'] at R1 R2 R3 R4 R5 RI RK RB ⊢
        have HBX2 : Hid (KeepsBox (w.heap.size + 1 + 1 + 1 + 1 + 1) w2 w4') := Eq.trans R3 hs.symm
        have HF : Hid (InvW w s (pre ++ [x]) w4') := by
          show InvW w s (pre ++ [x]) w4'
          unfold InvW
          rw [hE]
          exact ⟨⟨hal2, R4, R5, RI, R1, R2, R3⟩, RB⟩
        clear hw4' hI2 d1 d2 d3 d4 d5 dK dB c1 c2 f1 hm b1 b2 b3 b4 b5 bI hE
        gi_wp2
        exact ⟨RK, HBX2.out, HF.out⟩
  case done =>
    rintro D ys W hD rfl ⟨⟨hal, hr0, hr1, hI, hh, hc, hs⟩, hB⟩ hK
    have HW : Hid (wholeL s.data.toList = some (stD s.data.toList).2.2) := whole_yes hal
    have HI : Hid (Lib.IsBuilder 37 5 (w.heap.size + 1 + 1) (w.heap.size + 1 + 1) (Lib.byteCells (stD s.data.toList).2.2) W) := hI
    have hsz : w.heap.size + 1 + 1 ≤ W.heap.size := by have := hh.lt; omega
    clear hI hal
    gi_wp2_with (refine ⟨trivial, ?_⟩; gi_at_call 24; refine (callsIn_wide.2 (Tryd.Builder_String_any_k _ _ _ _ (Lib.IsBuilderF.of HI.out) hsz)).mono ?_; rintro e w3 ⟨rfl, _, hb3, hk3⟩; have g0 := (box_others hr0 hk3 (by omega) (by decide)).cell; have g1 := (box_others hr1 hk3 (by omega) (by decide)).cell; have f0 := (box_others hr0 hk3 (by omega) (by decide)).frozen; have f1 := (box_others hr1 hk3 (by omega) (by decide)).frozen)
    have hK3 := other_others hK hk3 (by omega) rfl
    have hK4 := ((KeepsOthers.setCell w3 ⟨w.heap.size, 0, none⟩ (.string ⟨(stD s.data.toList).2.2.toArray⟩)).trans (KeepsOthers.setCell _ ⟨w.heap.size + 1, 0, none⟩ (.bool true))).same D _ hK3 rfl
    refine ⟨by simp, .inl ⟨_, _, rfl, run_takeDeferred hK4, ?_⟩⟩
    have R0 := ((box_others hr0 hk3 (by omega) (by decide)).set (.string ⟨(stD s.data.toList).2.2.toArray⟩)).other (B' := w.heap.size + 1) (by omega) (.bool true)
    have R1 := ((box_others hr1 hk3 (by omega) (by decide)).other (B' := w.heap.size) (by omega) (.string ⟨(stD s.data.toList).2.2.toArray⟩)).set (.bool true)
    have hc5 := cell_kept R0.cell (grownBy_putObj' _ D (.deferred none)) (fun r e => by cases e; exact ⟨_, hK4, rfl⟩)
    have hc6 := cell_kept R1.cell (grownBy_putObj' _ D (.deferred none)) (fun r e => by cases e; exact ⟨_, hK4, rfl⟩)
    have hBB := ((hB.trans (hb3.mono (by omega))).setCell (p := ⟨w.heap.size, 0, none⟩) (by simp) (.string ⟨(stD s.data.toList).2.2.toArray⟩)).setCell (p := ⟨w.heap.size + 1, 0, none⟩) (by simp) (.bool true)
    refine ⟨.tuple #[.string ⟨(stD s.data.toList).2.2.toArray⟩, .bool true], ?_, by rw [HW.out]; rfl, hBB.trans (belowK_b (w := w) (Nat.le_refl _) _ D _ _ (by omega) hK4 rfl rfl)⟩
    simp [results, Tryd.f27, go_sem, hc5, hc6]
  case stop =>
    rintro D c pre W hD hpre ⟨⟨rfl, hin, hr0, hr1⟩, hB⟩ hK
    have HW : Hid (wholeL s.data.toList = none) := whole_no hpre hin
    gi_wp2
    refine ⟨by simp, .inl ⟨_, _, rfl, run_takeDeferred hK, ?_⟩⟩
    have hc5 := cell_kept hr0.cell (grownBy_putObj' _ D (.deferred none)) (fun r e => by cases e; exact ⟨_, hK, rfl⟩)
    have hc6 := cell_kept hr1.cell (grownBy_putObj' _ D (.deferred none)) (fun r e => by cases e; exact ⟨_, hK, rfl⟩)
    refine ⟨.tuple #[.string ⟨#[]⟩, .bool false], ?_, by rw [HW.out]; rfl, hB.trans (belowK_b (w := w) (Nat.le_refl _) W D _ _ (by omega) hK rfl rfl)⟩
    simp [results, Tryd.f27, go_sem, hc5, hc6]

end Go.Proofs.YtgnphekelklchaaDoor
