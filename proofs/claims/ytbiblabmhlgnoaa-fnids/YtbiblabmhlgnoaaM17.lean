/- Rows of the call's own: append within a region that draws, what stays where another row grows. Contract of l8DrawAttrs of the specification (the draw of attrs). The tokens of a tree (plain mathematics). -/
import Derived.Test.YtbiblabmhlgnoaaM16
import Derived.Test.YtbiblabmhlgnoaaM12
import Derived.Test.YtbiblabmhlgnoaaM11
import Derived.Maps.AppendAt
import Derived.Deep.Upon
import Derived.Deep.RegionHeld
namespace Go.Proofs.Ytbiblabmhlgnoaa
open Go.RowKit
set_option linter.unusedVariables false
set_option linter.unusedSimpArgs false

/-- append onto a row of the call's own, as one step of a region that draws its order. -/
theorem step_app_at {P : Program} {ops : Array Oper} {o : Oper} {a : Act} {w : World} {K : Act → World → Prop} {Q : Exit → Act → World → Prop} {E : Prop}
    (hg : o.guard = none) (s x : Operand) (t : TypeId) (hop : o.op = Op.call { callee := Callee.builtin Builtin.append, args := #[s, x], argTypes := #[t, t] })
    (base : Nat) (e : TypeId) (i : TypeInfo) (z : Value) (size bytes : Nat) (h1 : P.underlying t = some (.slice e)) (h2 : P.info? e = some i) (h3 : i.zero = some z) (h4 : i.size = size) (h5 : i.bytes = bytes) (h6 : z.cells.size = size) (h7 : 0 < size)
    (v : Value) (n : Nat) (xs : List Value) (hs : a.eval s = v) (hown : w.ownsRow base e size v n xs)
    (ad : Addr) (m c : Nat) (news : List Value) (hx : a.eval x = .slice (some ad) m c) (hn : news.length = m * size) (hc : ∀ j u, news[j]? = some u → w.cell? (ad.add j) = some u) (h1c : ∀ u ∈ news, u.oneCell' = true)
    (b1 : n + m ≤ maxLen) (b2 : (n + m) * bytes ≤ 140737488355328) (b3 : base ≤ w.heap.size)
    (hK : ∀ v' w', w'.ownsRow base e size v' (n + m) (xs ++ news) → w.grownBy w' v.ownBlock → (v'.ownBlock = v.ownBlock ∨ v'.ownBlock = some w.heap.size) → K (a.put o.dst v') w') :
    if Region.wanted o (yielded ops a.tmps) = true then Oper.wp P o a w K Q else E := by
  have hw : Region.wanted o (yielded ops a.tmps) = true := by simp [Region.wanted, hg]
  rw [if_pos hw]
  obtain ⟨v', w', hrun, r1, r2, _, r3⟩ := run_append_own_at (P := P) w base t o.type e i z size bytes h1 h2 h3 h4 h5 h6 h7 v n xs hown ad m c news hn hc h1c b1 b2 b3
  unfold Oper.wp
  simp [execOp, hop, resolve, invoke, builtin, hs, hx, hrun, Result.andThen]
  exact hK v' w' r1 r2 r3

theorem two_cells (w : World) (x y : Value) (T : TypeId) : ∀ j u, [x, y][j]? = some u → (w.alloc (.cells #[x, y] T)).cell? ((⟨w.heap.size, 0, none⟩ : Addr).add j) = some u := by
  intro j u hj
  match j, hj with
  | 0, hj => simp at hj; subst hj; simp [Addr.add]
  | 1, hj => simp at hj; subst hj; simp [Addr.add]

theorem box2e {w : World} {g : Nat} {x y : Value} {T : TypeId} (h : w.heap[g]? = some (.cells #[x, y] T (0, 0))) : (w.cell? ⟨g, 0, none⟩ = some x ∧ w.cell? ⟨g, 1, none⟩ = some y) ∧ (w.frozen? ⟨g, 0, none⟩ = false ∧ w.frozen? ⟨g, 1, none⟩ = false) :=
  ⟨⟨by rw [Lib.cell_of_heap h]; rfl, by rw [Lib.cell_of_heap h]; rfl⟩, Lib.frozen_of_heap h 0, Lib.frozen_of_heap h 1⟩

theorem box_set2 {w1 : World} {b : Nat} {x y u v : Value} {T : TypeId} (h : w1.heap[b]? = some (.cells #[x, y] T (0, 0))) : ((w1.setCell ⟨b, 0, none⟩ u).setCell ⟨b, 1, none⟩ v).heap[b]? = some (.cells #[u, v] T (0, 0)) :=
  heap_setCell_same _ _ _ _ _ _ (heap_setCell_same w1 b 0 _ _ u h)

theorem atC_app (l m : List At) : atC (l ++ m) = atC l ++ atC m := by simp [atC]

theorem cell_grownR {w w' : World} {row : Option Nat} (h : w.grownBy w' row) {b o : Nat} {v : Value} (hc : w.cell? ⟨b, o, none⟩ = some v) (hb : b < w.heap.size) (hr : row ≠ some b) : w'.cell? ⟨b, o, none⟩ = some v :=
  (World.cell?_of_block (a := ⟨b, o, none⟩) (h.block b hb (fun e => hr e.symm))).trans hc

theorem blk_grownR {w w' : World} {row : Option Nat} {e T : TypeId} {b : Nat} {c : Array Value} (h : w.heap[b]? = some (.cells c T (0, 0))) (hg : w.grownBy w' row) (hr : ∀ k, row = some k → ∃ c fz, w.heap[k]? = some (.cells c e fz)) (hT : T ≠ e) : w'.heap[b]? = some (.cells c T (0, 0)) :=
  (hg.block b (lt_of_heap h) (fun e1 => by
    obtain ⟨c2, fz2, h3⟩ := hr b e1.symm
    rw [h] at h3
    injection h3 with h3
    injection h3 with _ h4 _
    exact hT h4)).trans h

theorem Nd.Row.keepB {w w' : World} {B : Nat} {v : Value} {es : List Nd.E} {p : Nat → Prop} (h : Nd.Row w B v es) (hk : KeepB p w w') (hp : ∀ k, p k → ∀ c e fz, w.heap[k]? = some (.cells c e fz) → e ≠ 56 ∧ e ≠ 66) : Nd.Row w' B v es := by
  refine ⟨⟨h.own.1, ?_⟩, fun e he => ⟨fun hl => ?_, (h.ats e he).2⟩, h.apart⟩
  · rcases h.own.2 with h' | ⟨g, cap, cur, h1, h2, h3, h4⟩
    · exact .inl h'
    · exact .inr ⟨g, cap, cur, h1, h2, (hk.block g (lt_of_heap h3) (fun hpg => (hp g hpg _ _ _ h3).1 rfl)).trans h3, h4⟩
  · obtain ⟨g, o, cu, e1, e2, e3, e4⟩ := (h.ats e he).1 hl
    exact ⟨g, o, cu, e1, e2, (hk.block g (lt_of_heap e3) (fun hpg => (hp g hpg _ _ _ e3).2 rfl)).trans e3, e4⟩

theorem Nd.Row.kind {w : World} {B : Nat} {v : Value} {es : List Nd.E} (h : Nd.Row w B v es) : ∀ k, v.ownBlock = some k → ∃ c fz, w.heap[k]? = some (.cells c 56 fz) := by
  intro k hk
  rcases h.own.2 with ⟨rfl, _⟩ | ⟨g, cap, cur, rfl, _, hh, _⟩
  · cases hk
  · have : g = k := Option.some.inj hk
    subst this
    exact ⟨_, _, hh⟩

end Go.Proofs.Ytbiblabmhlgnoaa

namespace Go.Proofs.Ytbiblabmhlgnoaa
open Go.RowKit
set_option linter.unusedVariables false
set_option linter.unusedSimpArgs false

theorem tab3_at (w : World) (B x : Nat) (hx : x < 3) (h : w.heap[B]? = some (.cells #[.string ⟨#[117]⟩, .string ⟨#[119]⟩, .string ⟨#[122]⟩] 9 (0, 0))) : ∃ t : ByteArray, w.cell? ⟨B, x, none⟩ = some (.string t) ∧ t.size ≤ 1 := by
  rw [Lib.cell_of_heap h]
  rcases (show x = 0 ∨ x = 1 ∨ x = 2 from by omega) with rfl | rfl | rfl
  all_goals exact ⟨_, rfl, by decide⟩

theorem four_cells (w : World) (x y z t : Value) (T : TypeId) : ∀ j u, [x, y, z, t][j]? = some u → (w.alloc (.cells #[x, y, z, t] T)).cell? ((⟨w.heap.size, 0, none⟩ : Addr).add j) = some u := by
  intro j u hj
  match j, hj with
  | 0, hj => simp at hj; subst hj; simp [Addr.add]
  | 1, hj => simp at hj; subst hj; simp [Addr.add]
  | 2, hj => simp at hj; subst hj; simp [Addr.add]
  | 3, hj => simp at hj; subst hj; simp [Addr.add]

theorem box_set1 {w1 : World} {b : Nat} {x y v : Value} {T : TypeId} (h : w1.heap[b]? = some (.cells #[x, y] T (0, 0))) : (w1.setCell ⟨b, 1, none⟩ v).heap[b]? = some (.cells #[x, v] T (0, 0)) :=
  heap_setCell_same w1 b 1 _ _ v h

set_option maxRecDepth 8000 in
set_option maxHeartbeats 8000000 in
theorem cDrawAttrs (r : Bool) (w0 : World) (a : Option Addr) (len cap b : Nat) (w : World) (hlen : len ≤ 4096) (hcr : CodeRow w0 a len) (hC : Cur w0 a len cap b w) :
    Calls Try.prog 92 #[.pointer (some ⟨b, 0, none⟩), .bool r] w fun e w' => ∃ a' c' l, e = .returned (.slice a' (l : List At).length c') ∧ l.length ≤ 4 ∧ DSt w0 a len cap b w w' (.slice a' l.length c') l := by
  have HR := hid hcr
  have HC := hid hC
  clear hcr hC
  have hbl : b < w.heap.size := by obtain ⟨i, h, _, _, hh⟩ := HC.out.2.2; exact lt_of_heap hh
  have HDZ := hid (show DSt w0 a len cap b w (w.alloc (.cells #[] 66)) (.slice (some ⟨w.heap.size, 0, none⟩) 0 0) [] from ⟨World.ownsRow_made w #[] 0 (Nat.le_refl _) (Nat.zero_le _) rfl, fun x hx => absurd hx List.not_mem_nil, HC.out.alloc _, World.grownBy_alloc w _ _, hbl, HC.out.2.1.size⟩)
  clear hbl
  go_enter Try.func92, Try.ntmps92
  go_upto_region 2 with fail
  go_cut [16] from 11 to 72 (fun x wv => ∃ B : Bool, x = .bool B ∧ Hid (DSt w0 a len cap b w wv (.slice (some ⟨w.heap.size, 0, none⟩) 0 0) []))
  case first =>
    cases r
    · go_wp2_with fail
      go_meet
      exact ⟨false, rfl, HDZ.out⟩
    · go_wp2_with fail
      refine (cOnce 6 w0 a len cap b _ hlen HR.out HDZ.out.cur (by omega) (by omega)).mono ?_
      rintro e w2 ⟨x, rfl, hC2, hG2⟩
      have HD2 := hid (HDZ.out.draw hC2 hG2)
      clear hC2 hG2
      cases x
      · go_wp2_with fail
        go_meet
        exact ⟨true, rfl, HD2.out⟩
      · go_wp2_with fail
        go_meet
        exact ⟨false, rfl, HD2.out⟩
  obtain ⟨BR, rfl, HDY⟩ := hcut
  clear HDZ
  go_upto_if 16 with fail
  go_cut [5] from 17 to 72 (fun x wv => ∃ l : List At, l.length ≤ 2 ∧ Hid (DSt w0 a len cap b w wv x l))
  case first =>
    cases BR
    · go_wp2_with fail
      go_meet
      exact ⟨[], by simp, HDY.out⟩
    · obtain ⟨i0, hi, hz0, hz1, hz2⟩ := info_parts infoAtW
      go_wp2_with fail
      refine (cText ⟨#[49, 47]⟩ 2 w0 a len cap b _ (by omega) (by omega) (by decide) (by decide) hlen HR.out HDY.out.cur).mono ?_
      rintro e w3 ⟨t5, rfl, ht5, hC3, hG3⟩
      have HD3 := hid (HDY.out.draw hC3 hG3)
      obtain ⟨S5, hS5⟩ : ∃ S, (⟨#[117]⟩ : ByteArray) ++ t5 = S := ⟨_, rfl⟩
      have hz5 : S5.size = 1 + t5.size := by rw [← hS5, ByteArray.size_append]; rfl
      have hov : ¬ 9223372036854775807 < (⟨#[117]⟩ : ByteArray).size + t5.size := by rw [show (⟨#[117]⟩ : ByteArray).size = 1 from rfl]; omega
      have hz6 : S5.size ≤ 5 := by omega
      have HOA := hid (HD3.out.own.alloc (.cells #[.string ⟨#[110, 115, 58, 112]⟩, .string S5, .string ⟨#[110, 115, 58, 113]⟩, .string ⟨#[119]⟩] 66))
      have HDA := hid (HD3.out.alloc (.cells #[.string ⟨#[110, 115, 58, 112]⟩, .string S5, .string ⟨#[110, 115, 58, 113]⟩, .string ⟨#[119]⟩] 66))
      have HNE := hid (four_cells w3 (.string ⟨#[110, 115, 58, 112]⟩) (.string S5) (.string ⟨#[110, 115, 58, 113]⟩) (.string ⟨#[119]⟩) 66)
      have HON := hid (show ∀ u ∈ [Value.string ⟨#[110, 115, 58, 112]⟩, .string S5, .string ⟨#[110, 115, 58, 113]⟩, .string ⟨#[119]⟩], u.oneCell' = true by
        intro u hu
        simp at hu
        rcases hu with rfl | rfl | rfl | rfl <;> rfl)
      have hwb := HD3.out.gr.size
      clear hC3 hG3 hz5
      go_wp2_with (at_builtin; refine wpList_append_own _ rfl _ _ 54 rfl w.heap.size 66 i0 _ 2 32 Try.underlying54 hi hz0 hz1 hz2 rfl (by decide) _ _ _ rfl HOA.out ⟨w3.heap.size, 0, none⟩ 2 2 [.string ⟨#[110, 115, 58, 112]⟩, .string S5, .string ⟨#[110, 115, 58, 113]⟩, .string ⟨#[119]⟩] rfl rfl ?c1 ?c2 ?c3 ?c4 ?c5 ?_)
      case c1 => exact HNE.out
      case c2 => exact HON.out
      case c3 => unfold maxLen; simp
      case c4 => simp
      case c5 => simp; omega
      intro v6 w6 hown6 hgrow6 _
      have HD6 := hid (HDA.out.join (m := [⟨⟨#[110, 115, 58, 112]⟩, S5⟩, ⟨⟨#[110, 115, 58, 113]⟩, ⟨#[119]⟩⟩]) (fun x hx => by
        simp at hx
        rcases hx with rfl | rfl
        · exact ⟨by show (⟨#[110, 115, 58, 112]⟩ : ByteArray).size ≤ 20; decide, by show S5.size ≤ 20; omega⟩
        · exact ⟨by decide, by decide⟩) hown6 hgrow6)
      clear hown6 hgrow6
      go_wp2_with fail
      go_meet
      exact ⟨[⟨⟨#[110, 115, 58, 112]⟩, S5⟩, ⟨⟨#[110, 115, 58, 113]⟩, ⟨#[119]⟩⟩], by simp, HD6.out⟩
  obtain ⟨lz, hlz, HDX⟩ := hcut
  go_wp2_with fail
  refine (cBelow 3 w0 a len cap b _ hlen HR.out HDX.out.cur (by omega) (by omega)).mono ?_
  rintro e w2 ⟨y, rfl, hy, hC2, hG2⟩
  have HD0 := hid (HDX.out.draw hC2 hG2)
  clear hC2 hG2 HDX HDY
  go_wp2_with fail
  go_loopw [5, 6] (fun v x wr => ∃ (k : Nat) (l : List At), x = .int .i64 (k : Int) ∧ k ≤ 2 ∧ l.length + k ≤ 4 ∧ Hid (DSt w0 a len cap b w wr v l)) (fun _ x _ => (intOf x).toNat)
  case atStart => exact ⟨y, lz, rfl, by omega, by omega, HD0.out⟩
  case round =>
    clear HD0
    obtain ⟨k, l, rfl, hk, hlk, HD⟩ := hrel
    by_cases h0 : k = 0
    · subst h0
      obtain ⟨a5, c5, hv5, _⟩ := HD.out.row
      subst hv5
      go_wp2_with fail
      go_ret
      exact ⟨a5, c5, l, rfl, by omega, HD.out⟩
    · have hkp : (0 : Int) < (k : Int) := by omega
      obtain ⟨v, hv⟩ : ∃ v, v = v := ⟨u5, rfl⟩
      clear hv v
      generalize u5 = v at *
      go_upto_region 7 with fail
      go_cut [7] from 27 to 72 (fun x wv => ∃ (bx : Nat) (tA tC : ByteArray), x = .pointer (some ⟨bx, 0, none⟩) ∧ Hid (wv.heap[bx]? = some (.cells #[.string tA, .string tC] 66 (0, 0)) ∧ (w.heap.size ≤ bx ∧ ¬ v.ownBlock = some bx) ∧ tA.size ≤ 7 ∧ tC.size ≤ 4 ∧ DSt w0 a len cap b w wv v l))
      case first =>
        refine wp_region_held_drew (S := fun _ => True) (by kernel_rfl) trivial (fun _ => ?_)
        replace HD := hid (show DSt w0 a len cap b w wr.drew v l from HD.out.drewN 1)
        generalize wr.drew = W at *
        refine wpAnyH_take (i := 1) (v := ?_) rfl (by kernel_rfl) (by kernel_rfl) (by kernel_rfl) (fun _ _ _ h => h) (Or.inl ⟨by rfl, ?_⟩) trivial ?_
        rotate_left
        · intro w hSw
          go_simp
          try (with_reducible rfl)
        try simp only [Act.put, List.setIfInBounds_toArray, List.set_cons_zero, List.set_cons_succ]
        refine wpAnyH_take (i := 5) (v := ?_) rfl (by kernel_rfl) (by kernel_rfl) (by kernel_rfl) (fun _ _ _ h => h) (Or.inl ⟨by rfl, ?_⟩) trivial ?_
        rotate_left
        · intro w hSw
          go_simp
          try (with_reducible rfl)
        try simp only [Act.put, List.setIfInBounds_toArray, List.set_cons_zero, List.set_cons_succ]
        refine wpAnyH_ready (rs := [0, 2, 8]) (by kernel_rfl) (by simp) (AllReadyH.cons rfl (fun K hK => ?_) (AllReadyH.cons rfl (fun K hK => ?_) (AllReadyH.cons rfl (fun K hK => ?_) AllReadyH.nil)))
        · have HTB := hid (show ¬ W.heap.size = b by have := HD.out.gr.size; have := HD.out.lt; omega)
          go_simp
          refine hK.out _ _ trivial (fun _ => ?_)
          clear hK K
          try simp only [Act.put, List.setIfInBounds_toArray, List.set_cons_zero, List.set_cons_succ]
          have HT := hid (heap_alloc_new W (.cells #[.string ⟨#[97]⟩, .string ⟨#[120]⟩, .string ⟨#[112, 58, 97]⟩, .string ⟨#[113, 58, 97]⟩, .string ⟨#[112, 58, 120]⟩, .string ⟨#[110, 115]⟩, .string ⟨#[110, 115, 58, 112]⟩, .string ⟨#[73, 100]⟩] 9))
          replace HD := hid (HD.out.alloc (.cells #[.string ⟨#[97]⟩, .string ⟨#[120]⟩, .string ⟨#[112, 58, 97]⟩, .string ⟨#[113, 58, 97]⟩, .string ⟨#[112, 58, 120]⟩, .string ⟨#[110, 115]⟩, .string ⟨#[110, 115, 58, 112]⟩, .string ⟨#[73, 100]⟩] 9))
          generalize W.heap.size = tb at *
          generalize W.alloc (.cells #[.string ⟨#[97]⟩, .string ⟨#[120]⟩, .string ⟨#[112, 58, 97]⟩, .string ⟨#[113, 58, 97]⟩, .string ⟨#[112, 58, 120]⟩, .string ⟨#[110, 115]⟩, .string ⟨#[110, 115, 58, 112]⟩, .string ⟨#[73, 100]⟩] 9) = W at *
          refine wpAnyH_ready (rs := [2, 8]) (by kernel_rfl) (by simp) (AllReadyH.cons rfl (fun K hK => ?_) (AllReadyH.cons rfl (fun K hK => ?_) AllReadyH.nil))
          · go_simp
            refine (cBelow 8 w0 a len cap b _ hlen HR.out HD.out.cur (by omega) (by omega)).mono ?_
            rintro e W2 ⟨x, rfl, hx, hC, hG⟩
            replace HT := hid ((hG.block tb (lt_of_heap HT.out) (fun e => HTB.out (Option.some.inj e))).trans HT.out)
            replace HD := hid (HD.out.draw hC hG)
            have hx8 : (x : Int) < 8 := by omega
            clear hC hG
            go_wp2_with fail
            refine hK.out _ _ trivial (fun _ => ?_)
            clear hK K
            try simp only [Act.put, List.setIfInBounds_toArray, List.set_cons_zero, List.set_cons_succ]
            generalize W2 = W at *
            refine wpAnyH_take (i := 3) (v := ?_) rfl (by kernel_rfl) (by kernel_rfl) (by kernel_rfl) (fun _ _ _ h => h) (Or.inl ⟨by rfl, ?_⟩) trivial ?_
            rotate_left
            · intro w hSw
              go_simp
              try (with_reducible rfl)
            try simp only [Act.put, List.setIfInBounds_toArray, List.set_cons_zero, List.set_cons_succ]
            refine wpAnyH_ready (rs := [4, 6, 8]) (by kernel_rfl) (by simp) (AllReadyH.cons rfl (fun K hK => ?_) (AllReadyH.cons rfl (fun K hK => ?_) (AllReadyH.cons rfl (fun K hK => ?_) AllReadyH.nil)))
            · obtain ⟨tA, hcA, htA⟩ := tabA_at _ tb x hx HT.out
              go_simp
              refine hK.out _ _ trivial (fun _ => ?_)
              clear hK K
              try simp only [Act.put, List.setIfInBounds_toArray, List.set_cons_zero, List.set_cons_succ]
              clear hcA
              refine wpAnyH_ready (rs := [6, 8]) (by kernel_rfl) (by simp) (AllReadyH.cons rfl (fun K hK => ?_) (AllReadyH.cons rfl (fun K hK => ?_) AllReadyH.nil))
              · go_simp
                refine (cText ⟨#[97, 98, 60, 38, 34, 62, 32, 49]⟩ 4 w0 a len cap b _ (by omega) (by omega) (by decide) (by decide) hlen HR.out HD.out.cur).mono ?_
                rintro e W3 ⟨tC, rfl, htC, hC, hG⟩
                replace HT := hid ((hG.block tb (lt_of_heap HT.out) (fun e => HTB.out (Option.some.inj e))).trans HT.out)
                replace HD := hid (HD.out.draw hC hG)
                clear hC hG
                go_wp2_with fail
                refine hK.out _ _ trivial (fun _ => ?_)
                clear hK K
                try simp only [Act.put, List.setIfInBounds_toArray, List.set_cons_zero, List.set_cons_succ]
                generalize W3 = W at *
                refine wpAnyH_take (i := 7) (v := ?_) rfl (by kernel_rfl) (by kernel_rfl) (by kernel_rfl) (fun _ _ _ h => h) (Or.inl ⟨by rfl, ?_⟩) trivial ?_
                rotate_left
                · intro w hSw
                  go_simp
                  try (with_reducible rfl)
                try simp only [Act.put, List.setIfInBounds_toArray, List.set_cons_zero, List.set_cons_succ]
                refine wpAnyH_ready (rs := [8]) (by kernel_rfl) (by simp) (AllReadyH.cons rfl (fun K hK => ?_) AllReadyH.nil)
                · have HXB := hid (show w.heap.size ≤ W.heap.size ∧ ¬ v.ownBlock = some W.heap.size from ⟨HD.out.gr.size, fun e => by have := (HD.out.own.lt _ e).2; omega⟩)
                  go_simp
                  refine hK.out _ _ trivial (fun _ => ?_)
                  clear hK K
                  try simp only [Act.put, List.setIfInBounds_toArray, List.set_cons_zero, List.set_cons_succ]
                  have HX := hid (heap_alloc_new W (.cells #[.string ⟨#[]⟩, .string ⟨#[]⟩] 66))
                  replace HD := hid (HD.out.alloc (.cells #[.string ⟨#[]⟩, .string ⟨#[]⟩] 66))
                  replace HT := hid (blk_alloc HT.out (.cells #[.string ⟨#[]⟩, .string ⟨#[]⟩] 66))
                  generalize W.heap.size = bx at *
                  generalize W.alloc (.cells #[.string ⟨#[]⟩, .string ⟨#[]⟩] 66) = W at *
                  refine wpAnyH_ready (rs := [9]) (by kernel_rfl) (by simp) (AllReadyH.cons rfl (fun K hK => ?_) AllReadyH.nil)
                  · obtain ⟨⟨e0, e1⟩, f0, f1⟩ := box2e HX.out
                    go_simp
                    refine hK.out _ _ trivial (fun _ => ?_)
                    clear hK K
                    try simp only [Act.put, List.setIfInBounds_toArray, List.set_cons_zero, List.set_cons_succ]
                    refine wpAnyH_done (by kernel_rfl) ?_ _
                    go_wp2_with fail
                    go_meet
                    exact ⟨bx, tA, tC, rfl, ⟨box_set2 HX.out, HXB.out, htA, Nat.le_of_lt htC, (HD.out.set HXB.out.1 HXB.out.2 0 _).set HXB.out.1 HXB.out.2 1 _⟩⟩
              · have HXB := hid (show w.heap.size ≤ W.heap.size ∧ ¬ v.ownBlock = some W.heap.size from ⟨HD.out.gr.size, fun e => by have := (HD.out.own.lt _ e).2; omega⟩)
                go_simp
                refine hK.out _ _ trivial (fun _ => ?_)
                clear hK K
                try simp only [Act.put, List.setIfInBounds_toArray, List.set_cons_zero, List.set_cons_succ]
                have HX := hid (heap_alloc_new W (.cells #[.string ⟨#[]⟩, .string ⟨#[]⟩] 66))
                replace HD := hid (HD.out.alloc (.cells #[.string ⟨#[]⟩, .string ⟨#[]⟩] 66))
                replace HT := hid (blk_alloc HT.out (.cells #[.string ⟨#[]⟩, .string ⟨#[]⟩] 66))
                generalize W.heap.size = bx at *
                generalize W.alloc (.cells #[.string ⟨#[]⟩, .string ⟨#[]⟩] 66) = W at *
                refine wpAnyH_ready (rs := [6]) (by kernel_rfl) (by simp) (AllReadyH.cons rfl (fun K hK => ?_) AllReadyH.nil)
                · go_simp
                  refine (cText ⟨#[97, 98, 60, 38, 34, 62, 32, 49]⟩ 4 w0 a len cap b _ (by omega) (by omega) (by decide) (by decide) hlen HR.out HD.out.cur).mono ?_
                  rintro e W3 ⟨tC, rfl, htC, hC, hG⟩
                  replace HT := hid ((hG.block tb (lt_of_heap HT.out) (fun e => HTB.out (Option.some.inj e))).trans HT.out)
                  replace HX := hid ((hG.block bx (lt_of_heap HX.out) (fun e => by have := HXB.out.1; have := HD.out.lt; have := Option.some.inj e; omega)).trans HX.out)
                  replace HD := hid (HD.out.draw hC hG)
                  clear hC hG
                  go_wp2_with fail
                  refine hK.out _ _ trivial (fun _ => ?_)
                  clear hK K
                  try simp only [Act.put, List.setIfInBounds_toArray, List.set_cons_zero, List.set_cons_succ]
                  generalize W3 = W at *
                  refine wpAnyH_take (i := 7) (v := ?_) rfl (by kernel_rfl) (by kernel_rfl) (by kernel_rfl) (fun _ _ _ h => h) (Or.inl ⟨by rfl, ?_⟩) trivial ?_
                  rotate_left
                  · intro w hSw
                    go_simp
                    try (with_reducible rfl)
                  try simp only [Act.put, List.setIfInBounds_toArray, List.set_cons_zero, List.set_cons_succ]
                  refine wpAnyH_ready (rs := [9]) (by kernel_rfl) (by simp) (AllReadyH.cons rfl (fun K hK => ?_) AllReadyH.nil)
                  · obtain ⟨⟨e0, e1⟩, f0, f1⟩ := box2e HX.out
                    go_simp
                    refine hK.out _ _ trivial (fun _ => ?_)
                    clear hK K
                    try simp only [Act.put, List.setIfInBounds_toArray, List.set_cons_zero, List.set_cons_succ]
                    refine wpAnyH_done (by kernel_rfl) ?_ _
                    go_wp2_with fail
                    go_meet
                    exact ⟨bx, tA, tC, rfl, ⟨box_set2 HX.out, HXB.out, htA, Nat.le_of_lt htC, (HD.out.set HXB.out.1 HXB.out.2 0 _).set HXB.out.1 HXB.out.2 1 _⟩⟩
            · go_simp
              refine (cText ⟨#[97, 98, 60, 38, 34, 62, 32, 49]⟩ 4 w0 a len cap b _ (by omega) (by omega) (by decide) (by decide) hlen HR.out HD.out.cur).mono ?_
              rintro e W3 ⟨tC, rfl, htC, hC, hG⟩
              replace HT := hid ((hG.block tb (lt_of_heap HT.out) (fun e => HTB.out (Option.some.inj e))).trans HT.out)
              replace HD := hid (HD.out.draw hC hG)
              clear hC hG
              go_wp2_with fail
              refine hK.out _ _ trivial (fun _ => ?_)
              clear hK K
              try simp only [Act.put, List.setIfInBounds_toArray, List.set_cons_zero, List.set_cons_succ]
              generalize W3 = W at *
              refine wpAnyH_ready (rs := [4, 8]) (by kernel_rfl) (by simp) (AllReadyH.cons rfl (fun K hK => ?_) (AllReadyH.cons rfl (fun K hK => ?_) AllReadyH.nil))
              · obtain ⟨tA, hcA, htA⟩ := tabA_at _ tb x hx HT.out
                go_simp
                refine hK.out _ _ trivial (fun _ => ?_)
                clear hK K
                try simp only [Act.put, List.setIfInBounds_toArray, List.set_cons_zero, List.set_cons_succ]
                clear hcA
                refine wpAnyH_take (i := 7) (v := ?_) rfl (by kernel_rfl) (by kernel_rfl) (by kernel_rfl) (fun _ _ _ h => h) (Or.inl ⟨by rfl, ?_⟩) trivial ?_
                rotate_left
                · intro w hSw
                  go_simp
                  try (with_reducible rfl)
                try simp only [Act.put, List.setIfInBounds_toArray, List.set_cons_zero, List.set_cons_succ]
                refine wpAnyH_ready (rs := [8]) (by kernel_rfl) (by simp) (AllReadyH.cons rfl (fun K hK => ?_) AllReadyH.nil)
                · have HXB := hid (show w.heap.size ≤ W.heap.size ∧ ¬ v.ownBlock = some W.heap.size from ⟨HD.out.gr.size, fun e => by have := (HD.out.own.lt _ e).2; omega⟩)
                  go_simp
                  refine hK.out _ _ trivial (fun _ => ?_)
                  clear hK K
                  try simp only [Act.put, List.setIfInBounds_toArray, List.set_cons_zero, List.set_cons_succ]
                  have HX := hid (heap_alloc_new W (.cells #[.string ⟨#[]⟩, .string ⟨#[]⟩] 66))
                  replace HD := hid (HD.out.alloc (.cells #[.string ⟨#[]⟩, .string ⟨#[]⟩] 66))
                  replace HT := hid (blk_alloc HT.out (.cells #[.string ⟨#[]⟩, .string ⟨#[]⟩] 66))
                  generalize W.heap.size = bx at *
                  generalize W.alloc (.cells #[.string ⟨#[]⟩, .string ⟨#[]⟩] 66) = W at *
                  refine wpAnyH_ready (rs := [9]) (by kernel_rfl) (by simp) (AllReadyH.cons rfl (fun K hK => ?_) AllReadyH.nil)
                  · obtain ⟨⟨e0, e1⟩, f0, f1⟩ := box2e HX.out
                    go_simp
                    refine hK.out _ _ trivial (fun _ => ?_)
                    clear hK K
                    try simp only [Act.put, List.setIfInBounds_toArray, List.set_cons_zero, List.set_cons_succ]
                    refine wpAnyH_done (by kernel_rfl) ?_ _
                    go_wp2_with fail
                    go_meet
                    exact ⟨bx, tA, tC, rfl, ⟨box_set2 HX.out, HXB.out, htA, Nat.le_of_lt htC, (HD.out.set HXB.out.1 HXB.out.2 0 _).set HXB.out.1 HXB.out.2 1 _⟩⟩
              · have HXB := hid (show w.heap.size ≤ W.heap.size ∧ ¬ v.ownBlock = some W.heap.size from ⟨HD.out.gr.size, fun e => by have := (HD.out.own.lt _ e).2; omega⟩)
                go_simp
                refine hK.out _ _ trivial (fun _ => ?_)
                clear hK K
                try simp only [Act.put, List.setIfInBounds_toArray, List.set_cons_zero, List.set_cons_succ]
                have HX := hid (heap_alloc_new W (.cells #[.string ⟨#[]⟩, .string ⟨#[]⟩] 66))
                replace HD := hid (HD.out.alloc (.cells #[.string ⟨#[]⟩, .string ⟨#[]⟩] 66))
                replace HT := hid (blk_alloc HT.out (.cells #[.string ⟨#[]⟩, .string ⟨#[]⟩] 66))
                generalize W.heap.size = bx at *
                generalize W.alloc (.cells #[.string ⟨#[]⟩, .string ⟨#[]⟩] 66) = W at *
                refine wpAnyH_ready (rs := [4]) (by kernel_rfl) (by simp) (AllReadyH.cons rfl (fun K hK => ?_) AllReadyH.nil)
                · obtain ⟨tA, hcA, htA⟩ := tabA_at _ tb x hx HT.out
                  go_simp
                  refine hK.out _ _ trivial (fun _ => ?_)
                  clear hK K
                  try simp only [Act.put, List.setIfInBounds_toArray, List.set_cons_zero, List.set_cons_succ]
                  clear hcA
                  refine wpAnyH_take (i := 7) (v := ?_) rfl (by kernel_rfl) (by kernel_rfl) (by kernel_rfl) (fun _ _ _ h => h) (Or.inl ⟨by rfl, ?_⟩) trivial ?_
                  rotate_left
                  · intro w hSw
                    go_simp
                    try (with_reducible rfl)
                  try simp only [Act.put, List.setIfInBounds_toArray, List.set_cons_zero, List.set_cons_succ]
                  refine wpAnyH_ready (rs := [9]) (by kernel_rfl) (by simp) (AllReadyH.cons rfl (fun K hK => ?_) AllReadyH.nil)
                  · obtain ⟨⟨e0, e1⟩, f0, f1⟩ := box2e HX.out
                    go_simp
                    refine hK.out _ _ trivial (fun _ => ?_)
                    clear hK K
                    try simp only [Act.put, List.setIfInBounds_toArray, List.set_cons_zero, List.set_cons_succ]
                    refine wpAnyH_done (by kernel_rfl) ?_ _
                    go_wp2_with fail
                    go_meet
                    exact ⟨bx, tA, tC, rfl, ⟨box_set2 HX.out, HXB.out, htA, Nat.le_of_lt htC, (HD.out.set HXB.out.1 HXB.out.2 0 _).set HXB.out.1 HXB.out.2 1 _⟩⟩
            · have HXB := hid (show w.heap.size ≤ W.heap.size ∧ ¬ v.ownBlock = some W.heap.size from ⟨HD.out.gr.size, fun e => by have := (HD.out.own.lt _ e).2; omega⟩)
              go_simp
              refine hK.out _ _ trivial (fun _ => ?_)
              clear hK K
              try simp only [Act.put, List.setIfInBounds_toArray, List.set_cons_zero, List.set_cons_succ]
              have HX := hid (heap_alloc_new W (.cells #[.string ⟨#[]⟩, .string ⟨#[]⟩] 66))
              replace HD := hid (HD.out.alloc (.cells #[.string ⟨#[]⟩, .string ⟨#[]⟩] 66))
              replace HT := hid (blk_alloc HT.out (.cells #[.string ⟨#[]⟩, .string ⟨#[]⟩] 66))
              generalize W.heap.size = bx at *
              generalize W.alloc (.cells #[.string ⟨#[]⟩, .string ⟨#[]⟩] 66) = W at *
              refine wpAnyH_ready (rs := [4, 6]) (by kernel_rfl) (by simp) (AllReadyH.cons rfl (fun K hK => ?_) (AllReadyH.cons rfl (fun K hK => ?_) AllReadyH.nil))
              · obtain ⟨tA, hcA, htA⟩ := tabA_at _ tb x hx HT.out
                go_simp
                refine hK.out _ _ trivial (fun _ => ?_)
                clear hK K
                try simp only [Act.put, List.setIfInBounds_toArray, List.set_cons_zero, List.set_cons_succ]
                clear hcA
                refine wpAnyH_ready (rs := [6]) (by kernel_rfl) (by simp) (AllReadyH.cons rfl (fun K hK => ?_) AllReadyH.nil)
                · go_simp
                  refine (cText ⟨#[97, 98, 60, 38, 34, 62, 32, 49]⟩ 4 w0 a len cap b _ (by omega) (by omega) (by decide) (by decide) hlen HR.out HD.out.cur).mono ?_
                  rintro e W3 ⟨tC, rfl, htC, hC, hG⟩
                  replace HT := hid ((hG.block tb (lt_of_heap HT.out) (fun e => HTB.out (Option.some.inj e))).trans HT.out)
                  replace HX := hid ((hG.block bx (lt_of_heap HX.out) (fun e => by have := HXB.out.1; have := HD.out.lt; have := Option.some.inj e; omega)).trans HX.out)
                  replace HD := hid (HD.out.draw hC hG)
                  clear hC hG
                  go_wp2_with fail
                  refine hK.out _ _ trivial (fun _ => ?_)
                  clear hK K
                  try simp only [Act.put, List.setIfInBounds_toArray, List.set_cons_zero, List.set_cons_succ]
                  generalize W3 = W at *
                  refine wpAnyH_take (i := 7) (v := ?_) rfl (by kernel_rfl) (by kernel_rfl) (by kernel_rfl) (fun _ _ _ h => h) (Or.inl ⟨by rfl, ?_⟩) trivial ?_
                  rotate_left
                  · intro w hSw
                    go_simp
                    try (with_reducible rfl)
                  try simp only [Act.put, List.setIfInBounds_toArray, List.set_cons_zero, List.set_cons_succ]
                  refine wpAnyH_ready (rs := [9]) (by kernel_rfl) (by simp) (AllReadyH.cons rfl (fun K hK => ?_) AllReadyH.nil)
                  · obtain ⟨⟨e0, e1⟩, f0, f1⟩ := box2e HX.out
                    go_simp
                    refine hK.out _ _ trivial (fun _ => ?_)
                    clear hK K
                    try simp only [Act.put, List.setIfInBounds_toArray, List.set_cons_zero, List.set_cons_succ]
                    refine wpAnyH_done (by kernel_rfl) ?_ _
                    go_wp2_with fail
                    go_meet
                    exact ⟨bx, tA, tC, rfl, ⟨box_set2 HX.out, HXB.out, htA, Nat.le_of_lt htC, (HD.out.set HXB.out.1 HXB.out.2 0 _).set HXB.out.1 HXB.out.2 1 _⟩⟩
              · go_simp
                refine (cText ⟨#[97, 98, 60, 38, 34, 62, 32, 49]⟩ 4 w0 a len cap b _ (by omega) (by omega) (by decide) (by decide) hlen HR.out HD.out.cur).mono ?_
                rintro e W3 ⟨tC, rfl, htC, hC, hG⟩
                replace HT := hid ((hG.block tb (lt_of_heap HT.out) (fun e => HTB.out (Option.some.inj e))).trans HT.out)
                replace HX := hid ((hG.block bx (lt_of_heap HX.out) (fun e => by have := HXB.out.1; have := HD.out.lt; have := Option.some.inj e; omega)).trans HX.out)
                replace HD := hid (HD.out.draw hC hG)
                clear hC hG
                go_wp2_with fail
                refine hK.out _ _ trivial (fun _ => ?_)
                clear hK K
                try simp only [Act.put, List.setIfInBounds_toArray, List.set_cons_zero, List.set_cons_succ]
                generalize W3 = W at *
                refine wpAnyH_ready (rs := [4]) (by kernel_rfl) (by simp) (AllReadyH.cons rfl (fun K hK => ?_) AllReadyH.nil)
                · obtain ⟨tA, hcA, htA⟩ := tabA_at _ tb x hx HT.out
                  go_simp
                  refine hK.out _ _ trivial (fun _ => ?_)
                  clear hK K
                  try simp only [Act.put, List.setIfInBounds_toArray, List.set_cons_zero, List.set_cons_succ]
                  clear hcA
                  refine wpAnyH_take (i := 7) (v := ?_) rfl (by kernel_rfl) (by kernel_rfl) (by kernel_rfl) (fun _ _ _ h => h) (Or.inl ⟨by rfl, ?_⟩) trivial ?_
                  rotate_left
                  · intro w hSw
                    go_simp
                    try (with_reducible rfl)
                  try simp only [Act.put, List.setIfInBounds_toArray, List.set_cons_zero, List.set_cons_succ]
                  refine wpAnyH_ready (rs := [9]) (by kernel_rfl) (by simp) (AllReadyH.cons rfl (fun K hK => ?_) AllReadyH.nil)
                  · obtain ⟨⟨e0, e1⟩, f0, f1⟩ := box2e HX.out
                    go_simp
                    refine hK.out _ _ trivial (fun _ => ?_)
                    clear hK K
                    try simp only [Act.put, List.setIfInBounds_toArray, List.set_cons_zero, List.set_cons_succ]
                    refine wpAnyH_done (by kernel_rfl) ?_ _
                    go_wp2_with fail
                    go_meet
                    exact ⟨bx, tA, tC, rfl, ⟨box_set2 HX.out, HXB.out, htA, Nat.le_of_lt htC, (HD.out.set HXB.out.1 HXB.out.2 0 _).set HXB.out.1 HXB.out.2 1 _⟩⟩
          · have HXB := hid (show w.heap.size ≤ W.heap.size ∧ ¬ v.ownBlock = some W.heap.size from ⟨HD.out.gr.size, fun e => by have := (HD.out.own.lt _ e).2; omega⟩)
            go_simp
            refine hK.out _ _ trivial (fun _ => ?_)
            clear hK K
            try simp only [Act.put, List.setIfInBounds_toArray, List.set_cons_zero, List.set_cons_succ]
            have HX := hid (heap_alloc_new W (.cells #[.string ⟨#[]⟩, .string ⟨#[]⟩] 66))
            replace HD := hid (HD.out.alloc (.cells #[.string ⟨#[]⟩, .string ⟨#[]⟩] 66))
            replace HT := hid (blk_alloc HT.out (.cells #[.string ⟨#[]⟩, .string ⟨#[]⟩] 66))
            generalize W.heap.size = bx at *
            generalize W.alloc (.cells #[.string ⟨#[]⟩, .string ⟨#[]⟩] 66) = W at *
            refine wpAnyH_ready (rs := [2]) (by kernel_rfl) (by simp) (AllReadyH.cons rfl (fun K hK => ?_) AllReadyH.nil)
            · go_simp
              refine (cBelow 8 w0 a len cap b _ hlen HR.out HD.out.cur (by omega) (by omega)).mono ?_
              rintro e W2 ⟨x, rfl, hx, hC, hG⟩
              replace HT := hid ((hG.block tb (lt_of_heap HT.out) (fun e => HTB.out (Option.some.inj e))).trans HT.out)
              replace HX := hid ((hG.block bx (lt_of_heap HX.out) (fun e => by have := HXB.out.1; have := HD.out.lt; have := Option.some.inj e; omega)).trans HX.out)
              replace HD := hid (HD.out.draw hC hG)
              have hx8 : (x : Int) < 8 := by omega
              clear hC hG
              go_wp2_with fail
              refine hK.out _ _ trivial (fun _ => ?_)
              clear hK K
              try simp only [Act.put, List.setIfInBounds_toArray, List.set_cons_zero, List.set_cons_succ]
              generalize W2 = W at *
              refine wpAnyH_take (i := 3) (v := ?_) rfl (by kernel_rfl) (by kernel_rfl) (by kernel_rfl) (fun _ _ _ h => h) (Or.inl ⟨by rfl, ?_⟩) trivial ?_
              rotate_left
              · intro w hSw
                go_simp
                try (with_reducible rfl)
              try simp only [Act.put, List.setIfInBounds_toArray, List.set_cons_zero, List.set_cons_succ]
              refine wpAnyH_ready (rs := [4, 6]) (by kernel_rfl) (by simp) (AllReadyH.cons rfl (fun K hK => ?_) (AllReadyH.cons rfl (fun K hK => ?_) AllReadyH.nil))
              · obtain ⟨tA, hcA, htA⟩ := tabA_at _ tb x hx HT.out
                go_simp
                refine hK.out _ _ trivial (fun _ => ?_)
                clear hK K
                try simp only [Act.put, List.setIfInBounds_toArray, List.set_cons_zero, List.set_cons_succ]
                clear hcA
                refine wpAnyH_ready (rs := [6]) (by kernel_rfl) (by simp) (AllReadyH.cons rfl (fun K hK => ?_) AllReadyH.nil)
                · go_simp
                  refine (cText ⟨#[97, 98, 60, 38, 34, 62, 32, 49]⟩ 4 w0 a len cap b _ (by omega) (by omega) (by decide) (by decide) hlen HR.out HD.out.cur).mono ?_
                  rintro e W3 ⟨tC, rfl, htC, hC, hG⟩
                  replace HT := hid ((hG.block tb (lt_of_heap HT.out) (fun e => HTB.out (Option.some.inj e))).trans HT.out)
                  replace HX := hid ((hG.block bx (lt_of_heap HX.out) (fun e => by have := HXB.out.1; have := HD.out.lt; have := Option.some.inj e; omega)).trans HX.out)
                  replace HD := hid (HD.out.draw hC hG)
                  clear hC hG
                  go_wp2_with fail
                  refine hK.out _ _ trivial (fun _ => ?_)
                  clear hK K
                  try simp only [Act.put, List.setIfInBounds_toArray, List.set_cons_zero, List.set_cons_succ]
                  generalize W3 = W at *
                  refine wpAnyH_take (i := 7) (v := ?_) rfl (by kernel_rfl) (by kernel_rfl) (by kernel_rfl) (fun _ _ _ h => h) (Or.inl ⟨by rfl, ?_⟩) trivial ?_
                  rotate_left
                  · intro w hSw
                    go_simp
                    try (with_reducible rfl)
                  try simp only [Act.put, List.setIfInBounds_toArray, List.set_cons_zero, List.set_cons_succ]
                  refine wpAnyH_ready (rs := [9]) (by kernel_rfl) (by simp) (AllReadyH.cons rfl (fun K hK => ?_) AllReadyH.nil)
                  · obtain ⟨⟨e0, e1⟩, f0, f1⟩ := box2e HX.out
                    go_simp
                    refine hK.out _ _ trivial (fun _ => ?_)
                    clear hK K
                    try simp only [Act.put, List.setIfInBounds_toArray, List.set_cons_zero, List.set_cons_succ]
                    refine wpAnyH_done (by kernel_rfl) ?_ _
                    go_wp2_with fail
                    go_meet
                    exact ⟨bx, tA, tC, rfl, ⟨box_set2 HX.out, HXB.out, htA, Nat.le_of_lt htC, (HD.out.set HXB.out.1 HXB.out.2 0 _).set HXB.out.1 HXB.out.2 1 _⟩⟩
              · go_simp
                refine (cText ⟨#[97, 98, 60, 38, 34, 62, 32, 49]⟩ 4 w0 a len cap b _ (by omega) (by omega) (by decide) (by decide) hlen HR.out HD.out.cur).mono ?_
                rintro e W3 ⟨tC, rfl, htC, hC, hG⟩
                replace HT := hid ((hG.block tb (lt_of_heap HT.out) (fun e => HTB.out (Option.some.inj e))).trans HT.out)
                replace HX := hid ((hG.block bx (lt_of_heap HX.out) (fun e => by have := HXB.out.1; have := HD.out.lt; have := Option.some.inj e; omega)).trans HX.out)
                replace HD := hid (HD.out.draw hC hG)
                clear hC hG
                go_wp2_with fail
                refine hK.out _ _ trivial (fun _ => ?_)
                clear hK K
                try simp only [Act.put, List.setIfInBounds_toArray, List.set_cons_zero, List.set_cons_succ]
                generalize W3 = W at *
                refine wpAnyH_ready (rs := [4]) (by kernel_rfl) (by simp) (AllReadyH.cons rfl (fun K hK => ?_) AllReadyH.nil)
                · obtain ⟨tA, hcA, htA⟩ := tabA_at _ tb x hx HT.out
                  go_simp
                  refine hK.out _ _ trivial (fun _ => ?_)
                  clear hK K
                  try simp only [Act.put, List.setIfInBounds_toArray, List.set_cons_zero, List.set_cons_succ]
                  clear hcA
                  refine wpAnyH_take (i := 7) (v := ?_) rfl (by kernel_rfl) (by kernel_rfl) (by kernel_rfl) (fun _ _ _ h => h) (Or.inl ⟨by rfl, ?_⟩) trivial ?_
                  rotate_left
                  · intro w hSw
                    go_simp
                    try (with_reducible rfl)
                  try simp only [Act.put, List.setIfInBounds_toArray, List.set_cons_zero, List.set_cons_succ]
                  refine wpAnyH_ready (rs := [9]) (by kernel_rfl) (by simp) (AllReadyH.cons rfl (fun K hK => ?_) AllReadyH.nil)
                  · obtain ⟨⟨e0, e1⟩, f0, f1⟩ := box2e HX.out
                    go_simp
                    refine hK.out _ _ trivial (fun _ => ?_)
                    clear hK K
                    try simp only [Act.put, List.setIfInBounds_toArray, List.set_cons_zero, List.set_cons_succ]
                    refine wpAnyH_done (by kernel_rfl) ?_ _
                    go_wp2_with fail
                    go_meet
                    exact ⟨bx, tA, tC, rfl, ⟨box_set2 HX.out, HXB.out, htA, Nat.le_of_lt htC, (HD.out.set HXB.out.1 HXB.out.2 0 _).set HXB.out.1 HXB.out.2 1 _⟩⟩
        · go_simp
          refine (cBelow 8 w0 a len cap b _ hlen HR.out HD.out.cur (by omega) (by omega)).mono ?_
          rintro e W2 ⟨x, rfl, hx, hC, hG⟩
          replace HD := hid (HD.out.draw hC hG)
          have hx8 : (x : Int) < 8 := by omega
          clear hC hG
          go_wp2_with fail
          refine hK.out _ _ trivial (fun _ => ?_)
          clear hK K
          try simp only [Act.put, List.setIfInBounds_toArray, List.set_cons_zero, List.set_cons_succ]
          generalize W2 = W at *
          refine wpAnyH_ready (rs := [0, 6, 8]) (by kernel_rfl) (by simp) (AllReadyH.cons rfl (fun K hK => ?_) (AllReadyH.cons rfl (fun K hK => ?_) (AllReadyH.cons rfl (fun K hK => ?_) AllReadyH.nil)))
          · have HTB := hid (show ¬ W.heap.size = b by have := HD.out.gr.size; have := HD.out.lt; omega)
            go_simp
            refine hK.out _ _ trivial (fun _ => ?_)
            clear hK K
            try simp only [Act.put, List.setIfInBounds_toArray, List.set_cons_zero, List.set_cons_succ]
            have HT := hid (heap_alloc_new W (.cells #[.string ⟨#[97]⟩, .string ⟨#[120]⟩, .string ⟨#[112, 58, 97]⟩, .string ⟨#[113, 58, 97]⟩, .string ⟨#[112, 58, 120]⟩, .string ⟨#[110, 115]⟩, .string ⟨#[110, 115, 58, 112]⟩, .string ⟨#[73, 100]⟩] 9))
            replace HD := hid (HD.out.alloc (.cells #[.string ⟨#[97]⟩, .string ⟨#[120]⟩, .string ⟨#[112, 58, 97]⟩, .string ⟨#[113, 58, 97]⟩, .string ⟨#[112, 58, 120]⟩, .string ⟨#[110, 115]⟩, .string ⟨#[110, 115, 58, 112]⟩, .string ⟨#[73, 100]⟩] 9))
            generalize W.heap.size = tb at *
            generalize W.alloc (.cells #[.string ⟨#[97]⟩, .string ⟨#[120]⟩, .string ⟨#[112, 58, 97]⟩, .string ⟨#[113, 58, 97]⟩, .string ⟨#[112, 58, 120]⟩, .string ⟨#[110, 115]⟩, .string ⟨#[110, 115, 58, 112]⟩, .string ⟨#[73, 100]⟩] 9) = W at *
            refine wpAnyH_take (i := 3) (v := ?_) rfl (by kernel_rfl) (by kernel_rfl) (by kernel_rfl) (fun _ _ _ h => h) (Or.inl ⟨by rfl, ?_⟩) trivial ?_
            rotate_left
            · intro w hSw
              go_simp
              try (with_reducible rfl)
            try simp only [Act.put, List.setIfInBounds_toArray, List.set_cons_zero, List.set_cons_succ]
            refine wpAnyH_ready (rs := [4, 6, 8]) (by kernel_rfl) (by simp) (AllReadyH.cons rfl (fun K hK => ?_) (AllReadyH.cons rfl (fun K hK => ?_) (AllReadyH.cons rfl (fun K hK => ?_) AllReadyH.nil)))
            · obtain ⟨tA, hcA, htA⟩ := tabA_at _ tb x hx HT.out
              go_simp
              refine hK.out _ _ trivial (fun _ => ?_)
              clear hK K
              try simp only [Act.put, List.setIfInBounds_toArray, List.set_cons_zero, List.set_cons_succ]
              clear hcA
              refine wpAnyH_ready (rs := [6, 8]) (by kernel_rfl) (by simp) (AllReadyH.cons rfl (fun K hK => ?_) (AllReadyH.cons rfl (fun K hK => ?_) AllReadyH.nil))
              · go_simp
                refine (cText ⟨#[97, 98, 60, 38, 34, 62, 32, 49]⟩ 4 w0 a len cap b _ (by omega) (by omega) (by decide) (by decide) hlen HR.out HD.out.cur).mono ?_
                rintro e W3 ⟨tC, rfl, htC, hC, hG⟩
                replace HT := hid ((hG.block tb (lt_of_heap HT.out) (fun e => HTB.out (Option.some.inj e))).trans HT.out)
                replace HD := hid (HD.out.draw hC hG)
                clear hC hG
                go_wp2_with fail
                refine hK.out _ _ trivial (fun _ => ?_)
                clear hK K
                try simp only [Act.put, List.setIfInBounds_toArray, List.set_cons_zero, List.set_cons_succ]
                generalize W3 = W at *
                refine wpAnyH_take (i := 7) (v := ?_) rfl (by kernel_rfl) (by kernel_rfl) (by kernel_rfl) (fun _ _ _ h => h) (Or.inl ⟨by rfl, ?_⟩) trivial ?_
                rotate_left
                · intro w hSw
                  go_simp
                  try (with_reducible rfl)
                try simp only [Act.put, List.setIfInBounds_toArray, List.set_cons_zero, List.set_cons_succ]
                refine wpAnyH_ready (rs := [8]) (by kernel_rfl) (by simp) (AllReadyH.cons rfl (fun K hK => ?_) AllReadyH.nil)
                · have HXB := hid (show w.heap.size ≤ W.heap.size ∧ ¬ v.ownBlock = some W.heap.size from ⟨HD.out.gr.size, fun e => by have := (HD.out.own.lt _ e).2; omega⟩)
                  go_simp
                  refine hK.out _ _ trivial (fun _ => ?_)
                  clear hK K
                  try simp only [Act.put, List.setIfInBounds_toArray, List.set_cons_zero, List.set_cons_succ]
                  have HX := hid (heap_alloc_new W (.cells #[.string ⟨#[]⟩, .string ⟨#[]⟩] 66))
                  replace HD := hid (HD.out.alloc (.cells #[.string ⟨#[]⟩, .string ⟨#[]⟩] 66))
                  replace HT := hid (blk_alloc HT.out (.cells #[.string ⟨#[]⟩, .string ⟨#[]⟩] 66))
                  generalize W.heap.size = bx at *
                  generalize W.alloc (.cells #[.string ⟨#[]⟩, .string ⟨#[]⟩] 66) = W at *
                  refine wpAnyH_ready (rs := [9]) (by kernel_rfl) (by simp) (AllReadyH.cons rfl (fun K hK => ?_) AllReadyH.nil)
                  · obtain ⟨⟨e0, e1⟩, f0, f1⟩ := box2e HX.out
                    go_simp
                    refine hK.out _ _ trivial (fun _ => ?_)
                    clear hK K
                    try simp only [Act.put, List.setIfInBounds_toArray, List.set_cons_zero, List.set_cons_succ]
                    refine wpAnyH_done (by kernel_rfl) ?_ _
                    go_wp2_with fail
                    go_meet
                    exact ⟨bx, tA, tC, rfl, ⟨box_set2 HX.out, HXB.out, htA, Nat.le_of_lt htC, (HD.out.set HXB.out.1 HXB.out.2 0 _).set HXB.out.1 HXB.out.2 1 _⟩⟩
              · have HXB := hid (show w.heap.size ≤ W.heap.size ∧ ¬ v.ownBlock = some W.heap.size from ⟨HD.out.gr.size, fun e => by have := (HD.out.own.lt _ e).2; omega⟩)
                go_simp
                refine hK.out _ _ trivial (fun _ => ?_)
                clear hK K
                try simp only [Act.put, List.setIfInBounds_toArray, List.set_cons_zero, List.set_cons_succ]
                have HX := hid (heap_alloc_new W (.cells #[.string ⟨#[]⟩, .string ⟨#[]⟩] 66))
                replace HD := hid (HD.out.alloc (.cells #[.string ⟨#[]⟩, .string ⟨#[]⟩] 66))
                replace HT := hid (blk_alloc HT.out (.cells #[.string ⟨#[]⟩, .string ⟨#[]⟩] 66))
                generalize W.heap.size = bx at *
                generalize W.alloc (.cells #[.string ⟨#[]⟩, .string ⟨#[]⟩] 66) = W at *
                refine wpAnyH_ready (rs := [6]) (by kernel_rfl) (by simp) (AllReadyH.cons rfl (fun K hK => ?_) AllReadyH.nil)
                · go_simp
                  refine (cText ⟨#[97, 98, 60, 38, 34, 62, 32, 49]⟩ 4 w0 a len cap b _ (by omega) (by omega) (by decide) (by decide) hlen HR.out HD.out.cur).mono ?_
                  rintro e W3 ⟨tC, rfl, htC, hC, hG⟩
                  replace HT := hid ((hG.block tb (lt_of_heap HT.out) (fun e => HTB.out (Option.some.inj e))).trans HT.out)
                  replace HX := hid ((hG.block bx (lt_of_heap HX.out) (fun e => by have := HXB.out.1; have := HD.out.lt; have := Option.some.inj e; omega)).trans HX.out)
                  replace HD := hid (HD.out.draw hC hG)
                  clear hC hG
                  go_wp2_with fail
                  refine hK.out _ _ trivial (fun _ => ?_)
                  clear hK K
                  try simp only [Act.put, List.setIfInBounds_toArray, List.set_cons_zero, List.set_cons_succ]
                  generalize W3 = W at *
                  refine wpAnyH_take (i := 7) (v := ?_) rfl (by kernel_rfl) (by kernel_rfl) (by kernel_rfl) (fun _ _ _ h => h) (Or.inl ⟨by rfl, ?_⟩) trivial ?_
                  rotate_left
                  · intro w hSw
                    go_simp
                    try (with_reducible rfl)
                  try simp only [Act.put, List.setIfInBounds_toArray, List.set_cons_zero, List.set_cons_succ]
                  refine wpAnyH_ready (rs := [9]) (by kernel_rfl) (by simp) (AllReadyH.cons rfl (fun K hK => ?_) AllReadyH.nil)
                  · obtain ⟨⟨e0, e1⟩, f0, f1⟩ := box2e HX.out
                    go_simp
                    refine hK.out _ _ trivial (fun _ => ?_)
                    clear hK K
                    try simp only [Act.put, List.setIfInBounds_toArray, List.set_cons_zero, List.set_cons_succ]
                    refine wpAnyH_done (by kernel_rfl) ?_ _
                    go_wp2_with fail
                    go_meet
                    exact ⟨bx, tA, tC, rfl, ⟨box_set2 HX.out, HXB.out, htA, Nat.le_of_lt htC, (HD.out.set HXB.out.1 HXB.out.2 0 _).set HXB.out.1 HXB.out.2 1 _⟩⟩
            · go_simp
              refine (cText ⟨#[97, 98, 60, 38, 34, 62, 32, 49]⟩ 4 w0 a len cap b _ (by omega) (by omega) (by decide) (by decide) hlen HR.out HD.out.cur).mono ?_
              rintro e W3 ⟨tC, rfl, htC, hC, hG⟩
              replace HT := hid ((hG.block tb (lt_of_heap HT.out) (fun e => HTB.out (Option.some.inj e))).trans HT.out)
              replace HD := hid (HD.out.draw hC hG)
              clear hC hG
              go_wp2_with fail
              refine hK.out _ _ trivial (fun _ => ?_)
              clear hK K
              try simp only [Act.put, List.setIfInBounds_toArray, List.set_cons_zero, List.set_cons_succ]
              generalize W3 = W at *
              refine wpAnyH_ready (rs := [4, 8]) (by kernel_rfl) (by simp) (AllReadyH.cons rfl (fun K hK => ?_) (AllReadyH.cons rfl (fun K hK => ?_) AllReadyH.nil))
              · obtain ⟨tA, hcA, htA⟩ := tabA_at _ tb x hx HT.out
                go_simp
                refine hK.out _ _ trivial (fun _ => ?_)
                clear hK K
                try simp only [Act.put, List.setIfInBounds_toArray, List.set_cons_zero, List.set_cons_succ]
                clear hcA
                refine wpAnyH_take (i := 7) (v := ?_) rfl (by kernel_rfl) (by kernel_rfl) (by kernel_rfl) (fun _ _ _ h => h) (Or.inl ⟨by rfl, ?_⟩) trivial ?_
                rotate_left
                · intro w hSw
                  go_simp
                  try (with_reducible rfl)
                try simp only [Act.put, List.setIfInBounds_toArray, List.set_cons_zero, List.set_cons_succ]
                refine wpAnyH_ready (rs := [8]) (by kernel_rfl) (by simp) (AllReadyH.cons rfl (fun K hK => ?_) AllReadyH.nil)
                · have HXB := hid (show w.heap.size ≤ W.heap.size ∧ ¬ v.ownBlock = some W.heap.size from ⟨HD.out.gr.size, fun e => by have := (HD.out.own.lt _ e).2; omega⟩)
                  go_simp
                  refine hK.out _ _ trivial (fun _ => ?_)
                  clear hK K
                  try simp only [Act.put, List.setIfInBounds_toArray, List.set_cons_zero, List.set_cons_succ]
                  have HX := hid (heap_alloc_new W (.cells #[.string ⟨#[]⟩, .string ⟨#[]⟩] 66))
                  replace HD := hid (HD.out.alloc (.cells #[.string ⟨#[]⟩, .string ⟨#[]⟩] 66))
                  replace HT := hid (blk_alloc HT.out (.cells #[.string ⟨#[]⟩, .string ⟨#[]⟩] 66))
                  generalize W.heap.size = bx at *
                  generalize W.alloc (.cells #[.string ⟨#[]⟩, .string ⟨#[]⟩] 66) = W at *
                  refine wpAnyH_ready (rs := [9]) (by kernel_rfl) (by simp) (AllReadyH.cons rfl (fun K hK => ?_) AllReadyH.nil)
                  · obtain ⟨⟨e0, e1⟩, f0, f1⟩ := box2e HX.out
                    go_simp
                    refine hK.out _ _ trivial (fun _ => ?_)
                    clear hK K
                    try simp only [Act.put, List.setIfInBounds_toArray, List.set_cons_zero, List.set_cons_succ]
                    refine wpAnyH_done (by kernel_rfl) ?_ _
                    go_wp2_with fail
                    go_meet
                    exact ⟨bx, tA, tC, rfl, ⟨box_set2 HX.out, HXB.out, htA, Nat.le_of_lt htC, (HD.out.set HXB.out.1 HXB.out.2 0 _).set HXB.out.1 HXB.out.2 1 _⟩⟩
              · have HXB := hid (show w.heap.size ≤ W.heap.size ∧ ¬ v.ownBlock = some W.heap.size from ⟨HD.out.gr.size, fun e => by have := (HD.out.own.lt _ e).2; omega⟩)
                go_simp
                refine hK.out _ _ trivial (fun _ => ?_)
                clear hK K
                try simp only [Act.put, List.setIfInBounds_toArray, List.set_cons_zero, List.set_cons_succ]
                have HX := hid (heap_alloc_new W (.cells #[.string ⟨#[]⟩, .string ⟨#[]⟩] 66))
                replace HD := hid (HD.out.alloc (.cells #[.string ⟨#[]⟩, .string ⟨#[]⟩] 66))
                replace HT := hid (blk_alloc HT.out (.cells #[.string ⟨#[]⟩, .string ⟨#[]⟩] 66))
                generalize W.heap.size = bx at *
                generalize W.alloc (.cells #[.string ⟨#[]⟩, .string ⟨#[]⟩] 66) = W at *
                refine wpAnyH_ready (rs := [4]) (by kernel_rfl) (by simp) (AllReadyH.cons rfl (fun K hK => ?_) AllReadyH.nil)
                · obtain ⟨tA, hcA, htA⟩ := tabA_at _ tb x hx HT.out
                  go_simp
                  refine hK.out _ _ trivial (fun _ => ?_)
                  clear hK K
                  try simp only [Act.put, List.setIfInBounds_toArray, List.set_cons_zero, List.set_cons_succ]
                  clear hcA
                  refine wpAnyH_take (i := 7) (v := ?_) rfl (by kernel_rfl) (by kernel_rfl) (by kernel_rfl) (fun _ _ _ h => h) (Or.inl ⟨by rfl, ?_⟩) trivial ?_
                  rotate_left
                  · intro w hSw
                    go_simp
                    try (with_reducible rfl)
                  try simp only [Act.put, List.setIfInBounds_toArray, List.set_cons_zero, List.set_cons_succ]
                  refine wpAnyH_ready (rs := [9]) (by kernel_rfl) (by simp) (AllReadyH.cons rfl (fun K hK => ?_) AllReadyH.nil)
                  · obtain ⟨⟨e0, e1⟩, f0, f1⟩ := box2e HX.out
                    go_simp
                    refine hK.out _ _ trivial (fun _ => ?_)
                    clear hK K
                    try simp only [Act.put, List.setIfInBounds_toArray, List.set_cons_zero, List.set_cons_succ]
                    refine wpAnyH_done (by kernel_rfl) ?_ _
                    go_wp2_with fail
                    go_meet
                    exact ⟨bx, tA, tC, rfl, ⟨box_set2 HX.out, HXB.out, htA, Nat.le_of_lt htC, (HD.out.set HXB.out.1 HXB.out.2 0 _).set HXB.out.1 HXB.out.2 1 _⟩⟩
            · have HXB := hid (show w.heap.size ≤ W.heap.size ∧ ¬ v.ownBlock = some W.heap.size from ⟨HD.out.gr.size, fun e => by have := (HD.out.own.lt _ e).2; omega⟩)
              go_simp
              refine hK.out _ _ trivial (fun _ => ?_)
              clear hK K
              try simp only [Act.put, List.setIfInBounds_toArray, List.set_cons_zero, List.set_cons_succ]
              have HX := hid (heap_alloc_new W (.cells #[.string ⟨#[]⟩, .string ⟨#[]⟩] 66))
              replace HD := hid (HD.out.alloc (.cells #[.string ⟨#[]⟩, .string ⟨#[]⟩] 66))
              replace HT := hid (blk_alloc HT.out (.cells #[.string ⟨#[]⟩, .string ⟨#[]⟩] 66))
              generalize W.heap.size = bx at *
              generalize W.alloc (.cells #[.string ⟨#[]⟩, .string ⟨#[]⟩] 66) = W at *
              refine wpAnyH_ready (rs := [4, 6]) (by kernel_rfl) (by simp) (AllReadyH.cons rfl (fun K hK => ?_) (AllReadyH.cons rfl (fun K hK => ?_) AllReadyH.nil))
              · obtain ⟨tA, hcA, htA⟩ := tabA_at _ tb x hx HT.out
                go_simp
                refine hK.out _ _ trivial (fun _ => ?_)
                clear hK K
                try simp only [Act.put, List.setIfInBounds_toArray, List.set_cons_zero, List.set_cons_succ]
                clear hcA
                refine wpAnyH_ready (rs := [6]) (by kernel_rfl) (by simp) (AllReadyH.cons rfl (fun K hK => ?_) AllReadyH.nil)
                · go_simp
                  refine (cText ⟨#[97, 98, 60, 38, 34, 62, 32, 49]⟩ 4 w0 a len cap b _ (by omega) (by omega) (by decide) (by decide) hlen HR.out HD.out.cur).mono ?_
                  rintro e W3 ⟨tC, rfl, htC, hC, hG⟩
                  replace HT := hid ((hG.block tb (lt_of_heap HT.out) (fun e => HTB.out (Option.some.inj e))).trans HT.out)
                  replace HX := hid ((hG.block bx (lt_of_heap HX.out) (fun e => by have := HXB.out.1; have := HD.out.lt; have := Option.some.inj e; omega)).trans HX.out)
                  replace HD := hid (HD.out.draw hC hG)
                  clear hC hG
                  go_wp2_with fail
                  refine hK.out _ _ trivial (fun _ => ?_)
                  clear hK K
                  try simp only [Act.put, List.setIfInBounds_toArray, List.set_cons_zero, List.set_cons_succ]
                  generalize W3 = W at *
                  refine wpAnyH_take (i := 7) (v := ?_) rfl (by kernel_rfl) (by kernel_rfl) (by kernel_rfl) (fun _ _ _ h => h) (Or.inl ⟨by rfl, ?_⟩) trivial ?_
                  rotate_left
                  · intro w hSw
                    go_simp
                    try (with_reducible rfl)
                  try simp only [Act.put, List.setIfInBounds_toArray, List.set_cons_zero, List.set_cons_succ]
                  refine wpAnyH_ready (rs := [9]) (by kernel_rfl) (by simp) (AllReadyH.cons rfl (fun K hK => ?_) AllReadyH.nil)
                  · obtain ⟨⟨e0, e1⟩, f0, f1⟩ := box2e HX.out
                    go_simp
                    refine hK.out _ _ trivial (fun _ => ?_)
                    clear hK K
                    try simp only [Act.put, List.setIfInBounds_toArray, List.set_cons_zero, List.set_cons_succ]
                    refine wpAnyH_done (by kernel_rfl) ?_ _
                    go_wp2_with fail
                    go_meet
                    exact ⟨bx, tA, tC, rfl, ⟨box_set2 HX.out, HXB.out, htA, Nat.le_of_lt htC, (HD.out.set HXB.out.1 HXB.out.2 0 _).set HXB.out.1 HXB.out.2 1 _⟩⟩
              · go_simp
                refine (cText ⟨#[97, 98, 60, 38, 34, 62, 32, 49]⟩ 4 w0 a len cap b _ (by omega) (by omega) (by decide) (by decide) hlen HR.out HD.out.cur).mono ?_
                rintro e W3 ⟨tC, rfl, htC, hC, hG⟩
                replace HT := hid ((hG.block tb (lt_of_heap HT.out) (fun e => HTB.out (Option.some.inj e))).trans HT.out)
                replace HX := hid ((hG.block bx (lt_of_heap HX.out) (fun e => by have := HXB.out.1; have := HD.out.lt; have := Option.some.inj e; omega)).trans HX.out)
                replace HD := hid (HD.out.draw hC hG)
                clear hC hG
                go_wp2_with fail
                refine hK.out _ _ trivial (fun _ => ?_)
                clear hK K
                try simp only [Act.put, List.setIfInBounds_toArray, List.set_cons_zero, List.set_cons_succ]
                generalize W3 = W at *
                refine wpAnyH_ready (rs := [4]) (by kernel_rfl) (by simp) (AllReadyH.cons rfl (fun K hK => ?_) AllReadyH.nil)
                · obtain ⟨tA, hcA, htA⟩ := tabA_at _ tb x hx HT.out
                  go_simp
                  refine hK.out _ _ trivial (fun _ => ?_)
                  clear hK K
                  try simp only [Act.put, List.setIfInBounds_toArray, List.set_cons_zero, List.set_cons_succ]
                  clear hcA
                  refine wpAnyH_take (i := 7) (v := ?_) rfl (by kernel_rfl) (by kernel_rfl) (by kernel_rfl) (fun _ _ _ h => h) (Or.inl ⟨by rfl, ?_⟩) trivial ?_
                  rotate_left
                  · intro w hSw
                    go_simp
                    try (with_reducible rfl)
                  try simp only [Act.put, List.setIfInBounds_toArray, List.set_cons_zero, List.set_cons_succ]
                  refine wpAnyH_ready (rs := [9]) (by kernel_rfl) (by simp) (AllReadyH.cons rfl (fun K hK => ?_) AllReadyH.nil)
                  · obtain ⟨⟨e0, e1⟩, f0, f1⟩ := box2e HX.out
                    go_simp
                    refine hK.out _ _ trivial (fun _ => ?_)
                    clear hK K
                    try simp only [Act.put, List.setIfInBounds_toArray, List.set_cons_zero, List.set_cons_succ]
                    refine wpAnyH_done (by kernel_rfl) ?_ _
                    go_wp2_with fail
                    go_meet
                    exact ⟨bx, tA, tC, rfl, ⟨box_set2 HX.out, HXB.out, htA, Nat.le_of_lt htC, (HD.out.set HXB.out.1 HXB.out.2 0 _).set HXB.out.1 HXB.out.2 1 _⟩⟩
          · go_simp
            refine (cText ⟨#[97, 98, 60, 38, 34, 62, 32, 49]⟩ 4 w0 a len cap b _ (by omega) (by omega) (by decide) (by decide) hlen HR.out HD.out.cur).mono ?_
            rintro e W3 ⟨tC, rfl, htC, hC, hG⟩
            replace HD := hid (HD.out.draw hC hG)
            clear hC hG
            go_wp2_with fail
            refine hK.out _ _ trivial (fun _ => ?_)
            clear hK K
            try simp only [Act.put, List.setIfInBounds_toArray, List.set_cons_zero, List.set_cons_succ]
            generalize W3 = W at *
            refine wpAnyH_ready (rs := [0, 8]) (by kernel_rfl) (by simp) (AllReadyH.cons rfl (fun K hK => ?_) (AllReadyH.cons rfl (fun K hK => ?_) AllReadyH.nil))
            · have HTB := hid (show ¬ W.heap.size = b by have := HD.out.gr.size; have := HD.out.lt; omega)
              go_simp
              refine hK.out _ _ trivial (fun _ => ?_)
              clear hK K
              try simp only [Act.put, List.setIfInBounds_toArray, List.set_cons_zero, List.set_cons_succ]
              have HT := hid (heap_alloc_new W (.cells #[.string ⟨#[97]⟩, .string ⟨#[120]⟩, .string ⟨#[112, 58, 97]⟩, .string ⟨#[113, 58, 97]⟩, .string ⟨#[112, 58, 120]⟩, .string ⟨#[110, 115]⟩, .string ⟨#[110, 115, 58, 112]⟩, .string ⟨#[73, 100]⟩] 9))
              replace HD := hid (HD.out.alloc (.cells #[.string ⟨#[97]⟩, .string ⟨#[120]⟩, .string ⟨#[112, 58, 97]⟩, .string ⟨#[113, 58, 97]⟩, .string ⟨#[112, 58, 120]⟩, .string ⟨#[110, 115]⟩, .string ⟨#[110, 115, 58, 112]⟩, .string ⟨#[73, 100]⟩] 9))
              generalize W.heap.size = tb at *
              generalize W.alloc (.cells #[.string ⟨#[97]⟩, .string ⟨#[120]⟩, .string ⟨#[112, 58, 97]⟩, .string ⟨#[113, 58, 97]⟩, .string ⟨#[112, 58, 120]⟩, .string ⟨#[110, 115]⟩, .string ⟨#[110, 115, 58, 112]⟩, .string ⟨#[73, 100]⟩] 9) = W at *
              refine wpAnyH_take (i := 3) (v := ?_) rfl (by kernel_rfl) (by kernel_rfl) (by kernel_rfl) (fun _ _ _ h => h) (Or.inl ⟨by rfl, ?_⟩) trivial ?_
              rotate_left
              · intro w hSw
                go_simp
                try (with_reducible rfl)
              try simp only [Act.put, List.setIfInBounds_toArray, List.set_cons_zero, List.set_cons_succ]
              refine wpAnyH_ready (rs := [4, 8]) (by kernel_rfl) (by simp) (AllReadyH.cons rfl (fun K hK => ?_) (AllReadyH.cons rfl (fun K hK => ?_) AllReadyH.nil))
              · obtain ⟨tA, hcA, htA⟩ := tabA_at _ tb x hx HT.out
                go_simp
                refine hK.out _ _ trivial (fun _ => ?_)
                clear hK K
                try simp only [Act.put, List.setIfInBounds_toArray, List.set_cons_zero, List.set_cons_succ]
                clear hcA
                refine wpAnyH_take (i := 7) (v := ?_) rfl (by kernel_rfl) (by kernel_rfl) (by kernel_rfl) (fun _ _ _ h => h) (Or.inl ⟨by rfl, ?_⟩) trivial ?_
                rotate_left
                · intro w hSw
                  go_simp
                  try (with_reducible rfl)
                try simp only [Act.put, List.setIfInBounds_toArray, List.set_cons_zero, List.set_cons_succ]
                refine wpAnyH_ready (rs := [8]) (by kernel_rfl) (by simp) (AllReadyH.cons rfl (fun K hK => ?_) AllReadyH.nil)
                · have HXB := hid (show w.heap.size ≤ W.heap.size ∧ ¬ v.ownBlock = some W.heap.size from ⟨HD.out.gr.size, fun e => by have := (HD.out.own.lt _ e).2; omega⟩)
                  go_simp
                  refine hK.out _ _ trivial (fun _ => ?_)
                  clear hK K
                  try simp only [Act.put, List.setIfInBounds_toArray, List.set_cons_zero, List.set_cons_succ]
                  have HX := hid (heap_alloc_new W (.cells #[.string ⟨#[]⟩, .string ⟨#[]⟩] 66))
                  replace HD := hid (HD.out.alloc (.cells #[.string ⟨#[]⟩, .string ⟨#[]⟩] 66))
                  replace HT := hid (blk_alloc HT.out (.cells #[.string ⟨#[]⟩, .string ⟨#[]⟩] 66))
                  generalize W.heap.size = bx at *
                  generalize W.alloc (.cells #[.string ⟨#[]⟩, .string ⟨#[]⟩] 66) = W at *
                  refine wpAnyH_ready (rs := [9]) (by kernel_rfl) (by simp) (AllReadyH.cons rfl (fun K hK => ?_) AllReadyH.nil)
                  · obtain ⟨⟨e0, e1⟩, f0, f1⟩ := box2e HX.out
                    go_simp
                    refine hK.out _ _ trivial (fun _ => ?_)
                    clear hK K
                    try simp only [Act.put, List.setIfInBounds_toArray, List.set_cons_zero, List.set_cons_succ]
                    refine wpAnyH_done (by kernel_rfl) ?_ _
                    go_wp2_with fail
                    go_meet
                    exact ⟨bx, tA, tC, rfl, ⟨box_set2 HX.out, HXB.out, htA, Nat.le_of_lt htC, (HD.out.set HXB.out.1 HXB.out.2 0 _).set HXB.out.1 HXB.out.2 1 _⟩⟩
              · have HXB := hid (show w.heap.size ≤ W.heap.size ∧ ¬ v.ownBlock = some W.heap.size from ⟨HD.out.gr.size, fun e => by have := (HD.out.own.lt _ e).2; omega⟩)
                go_simp
                refine hK.out _ _ trivial (fun _ => ?_)
                clear hK K
                try simp only [Act.put, List.setIfInBounds_toArray, List.set_cons_zero, List.set_cons_succ]
                have HX := hid (heap_alloc_new W (.cells #[.string ⟨#[]⟩, .string ⟨#[]⟩] 66))
                replace HD := hid (HD.out.alloc (.cells #[.string ⟨#[]⟩, .string ⟨#[]⟩] 66))
                replace HT := hid (blk_alloc HT.out (.cells #[.string ⟨#[]⟩, .string ⟨#[]⟩] 66))
                generalize W.heap.size = bx at *
                generalize W.alloc (.cells #[.string ⟨#[]⟩, .string ⟨#[]⟩] 66) = W at *
                refine wpAnyH_ready (rs := [4]) (by kernel_rfl) (by simp) (AllReadyH.cons rfl (fun K hK => ?_) AllReadyH.nil)
                · obtain ⟨tA, hcA, htA⟩ := tabA_at _ tb x hx HT.out
                  go_simp
                  refine hK.out _ _ trivial (fun _ => ?_)
                  clear hK K
                  try simp only [Act.put, List.setIfInBounds_toArray, List.set_cons_zero, List.set_cons_succ]
                  clear hcA
                  refine wpAnyH_take (i := 7) (v := ?_) rfl (by kernel_rfl) (by kernel_rfl) (by kernel_rfl) (fun _ _ _ h => h) (Or.inl ⟨by rfl, ?_⟩) trivial ?_
                  rotate_left
                  · intro w hSw
                    go_simp
                    try (with_reducible rfl)
                  try simp only [Act.put, List.setIfInBounds_toArray, List.set_cons_zero, List.set_cons_succ]
                  refine wpAnyH_ready (rs := [9]) (by kernel_rfl) (by simp) (AllReadyH.cons rfl (fun K hK => ?_) AllReadyH.nil)
                  · obtain ⟨⟨e0, e1⟩, f0, f1⟩ := box2e HX.out
                    go_simp
                    refine hK.out _ _ trivial (fun _ => ?_)
                    clear hK K
                    try simp only [Act.put, List.setIfInBounds_toArray, List.set_cons_zero, List.set_cons_succ]
                    refine wpAnyH_done (by kernel_rfl) ?_ _
                    go_wp2_with fail
                    go_meet
                    exact ⟨bx, tA, tC, rfl, ⟨box_set2 HX.out, HXB.out, htA, Nat.le_of_lt htC, (HD.out.set HXB.out.1 HXB.out.2 0 _).set HXB.out.1 HXB.out.2 1 _⟩⟩
            · have HXB := hid (show w.heap.size ≤ W.heap.size ∧ ¬ v.ownBlock = some W.heap.size from ⟨HD.out.gr.size, fun e => by have := (HD.out.own.lt _ e).2; omega⟩)
              go_simp
              refine hK.out _ _ trivial (fun _ => ?_)
              clear hK K
              try simp only [Act.put, List.setIfInBounds_toArray, List.set_cons_zero, List.set_cons_succ]
              have HX := hid (heap_alloc_new W (.cells #[.string ⟨#[]⟩, .string ⟨#[]⟩] 66))
              replace HD := hid (HD.out.alloc (.cells #[.string ⟨#[]⟩, .string ⟨#[]⟩] 66))
              generalize W.heap.size = bx at *
              generalize W.alloc (.cells #[.string ⟨#[]⟩, .string ⟨#[]⟩] 66) = W at *
              refine wpAnyH_ready (rs := [0]) (by kernel_rfl) (by simp) (AllReadyH.cons rfl (fun K hK => ?_) AllReadyH.nil)
              · have HTB := hid (show ¬ W.heap.size = b by have := HD.out.gr.size; have := HD.out.lt; omega)
                go_simp
                refine hK.out _ _ trivial (fun _ => ?_)
                clear hK K
                try simp only [Act.put, List.setIfInBounds_toArray, List.set_cons_zero, List.set_cons_succ]
                have HT := hid (heap_alloc_new W (.cells #[.string ⟨#[97]⟩, .string ⟨#[120]⟩, .string ⟨#[112, 58, 97]⟩, .string ⟨#[113, 58, 97]⟩, .string ⟨#[112, 58, 120]⟩, .string ⟨#[110, 115]⟩, .string ⟨#[110, 115, 58, 112]⟩, .string ⟨#[73, 100]⟩] 9))
                replace HD := hid (HD.out.alloc (.cells #[.string ⟨#[97]⟩, .string ⟨#[120]⟩, .string ⟨#[112, 58, 97]⟩, .string ⟨#[113, 58, 97]⟩, .string ⟨#[112, 58, 120]⟩, .string ⟨#[110, 115]⟩, .string ⟨#[110, 115, 58, 112]⟩, .string ⟨#[73, 100]⟩] 9))
                replace HX := hid (blk_alloc HX.out (.cells #[.string ⟨#[97]⟩, .string ⟨#[120]⟩, .string ⟨#[112, 58, 97]⟩, .string ⟨#[113, 58, 97]⟩, .string ⟨#[112, 58, 120]⟩, .string ⟨#[110, 115]⟩, .string ⟨#[110, 115, 58, 112]⟩, .string ⟨#[73, 100]⟩] 9))
                generalize W.heap.size = tb at *
                generalize W.alloc (.cells #[.string ⟨#[97]⟩, .string ⟨#[120]⟩, .string ⟨#[112, 58, 97]⟩, .string ⟨#[113, 58, 97]⟩, .string ⟨#[112, 58, 120]⟩, .string ⟨#[110, 115]⟩, .string ⟨#[110, 115, 58, 112]⟩, .string ⟨#[73, 100]⟩] 9) = W at *
                refine wpAnyH_take (i := 3) (v := ?_) rfl (by kernel_rfl) (by kernel_rfl) (by kernel_rfl) (fun _ _ _ h => h) (Or.inl ⟨by rfl, ?_⟩) trivial ?_
                rotate_left
                · intro w hSw
                  go_simp
                  try (with_reducible rfl)
                try simp only [Act.put, List.setIfInBounds_toArray, List.set_cons_zero, List.set_cons_succ]
                refine wpAnyH_ready (rs := [4]) (by kernel_rfl) (by simp) (AllReadyH.cons rfl (fun K hK => ?_) AllReadyH.nil)
                · obtain ⟨tA, hcA, htA⟩ := tabA_at _ tb x hx HT.out
                  go_simp
                  refine hK.out _ _ trivial (fun _ => ?_)
                  clear hK K
                  try simp only [Act.put, List.setIfInBounds_toArray, List.set_cons_zero, List.set_cons_succ]
                  clear hcA
                  refine wpAnyH_take (i := 7) (v := ?_) rfl (by kernel_rfl) (by kernel_rfl) (by kernel_rfl) (fun _ _ _ h => h) (Or.inl ⟨by rfl, ?_⟩) trivial ?_
                  rotate_left
                  · intro w hSw
                    go_simp
                    try (with_reducible rfl)
                  try simp only [Act.put, List.setIfInBounds_toArray, List.set_cons_zero, List.set_cons_succ]
                  refine wpAnyH_ready (rs := [9]) (by kernel_rfl) (by simp) (AllReadyH.cons rfl (fun K hK => ?_) AllReadyH.nil)
                  · obtain ⟨⟨e0, e1⟩, f0, f1⟩ := box2e HX.out
                    go_simp
                    refine hK.out _ _ trivial (fun _ => ?_)
                    clear hK K
                    try simp only [Act.put, List.setIfInBounds_toArray, List.set_cons_zero, List.set_cons_succ]
                    refine wpAnyH_done (by kernel_rfl) ?_ _
                    go_wp2_with fail
                    go_meet
                    exact ⟨bx, tA, tC, rfl, ⟨box_set2 HX.out, HXB.out, htA, Nat.le_of_lt htC, (HD.out.set HXB.out.1 HXB.out.2 0 _).set HXB.out.1 HXB.out.2 1 _⟩⟩
          · have HXB := hid (show w.heap.size ≤ W.heap.size ∧ ¬ v.ownBlock = some W.heap.size from ⟨HD.out.gr.size, fun e => by have := (HD.out.own.lt _ e).2; omega⟩)
            go_simp
            refine hK.out _ _ trivial (fun _ => ?_)
            clear hK K
            try simp only [Act.put, List.setIfInBounds_toArray, List.set_cons_zero, List.set_cons_succ]
            have HX := hid (heap_alloc_new W (.cells #[.string ⟨#[]⟩, .string ⟨#[]⟩] 66))
            replace HD := hid (HD.out.alloc (.cells #[.string ⟨#[]⟩, .string ⟨#[]⟩] 66))
            generalize W.heap.size = bx at *
            generalize W.alloc (.cells #[.string ⟨#[]⟩, .string ⟨#[]⟩] 66) = W at *
            refine wpAnyH_ready (rs := [0, 6]) (by kernel_rfl) (by simp) (AllReadyH.cons rfl (fun K hK => ?_) (AllReadyH.cons rfl (fun K hK => ?_) AllReadyH.nil))
            · have HTB := hid (show ¬ W.heap.size = b by have := HD.out.gr.size; have := HD.out.lt; omega)
              go_simp
              refine hK.out _ _ trivial (fun _ => ?_)
              clear hK K
              try simp only [Act.put, List.setIfInBounds_toArray, List.set_cons_zero, List.set_cons_succ]
              have HT := hid (heap_alloc_new W (.cells #[.string ⟨#[97]⟩, .string ⟨#[120]⟩, .string ⟨#[112, 58, 97]⟩, .string ⟨#[113, 58, 97]⟩, .string ⟨#[112, 58, 120]⟩, .string ⟨#[110, 115]⟩, .string ⟨#[110, 115, 58, 112]⟩, .string ⟨#[73, 100]⟩] 9))
              replace HD := hid (HD.out.alloc (.cells #[.string ⟨#[97]⟩, .string ⟨#[120]⟩, .string ⟨#[112, 58, 97]⟩, .string ⟨#[113, 58, 97]⟩, .string ⟨#[112, 58, 120]⟩, .string ⟨#[110, 115]⟩, .string ⟨#[110, 115, 58, 112]⟩, .string ⟨#[73, 100]⟩] 9))
              replace HX := hid (blk_alloc HX.out (.cells #[.string ⟨#[97]⟩, .string ⟨#[120]⟩, .string ⟨#[112, 58, 97]⟩, .string ⟨#[113, 58, 97]⟩, .string ⟨#[112, 58, 120]⟩, .string ⟨#[110, 115]⟩, .string ⟨#[110, 115, 58, 112]⟩, .string ⟨#[73, 100]⟩] 9))
              generalize W.heap.size = tb at *
              generalize W.alloc (.cells #[.string ⟨#[97]⟩, .string ⟨#[120]⟩, .string ⟨#[112, 58, 97]⟩, .string ⟨#[113, 58, 97]⟩, .string ⟨#[112, 58, 120]⟩, .string ⟨#[110, 115]⟩, .string ⟨#[110, 115, 58, 112]⟩, .string ⟨#[73, 100]⟩] 9) = W at *
              refine wpAnyH_take (i := 3) (v := ?_) rfl (by kernel_rfl) (by kernel_rfl) (by kernel_rfl) (fun _ _ _ h => h) (Or.inl ⟨by rfl, ?_⟩) trivial ?_
              rotate_left
              · intro w hSw
                go_simp
                try (with_reducible rfl)
              try simp only [Act.put, List.setIfInBounds_toArray, List.set_cons_zero, List.set_cons_succ]
              refine wpAnyH_ready (rs := [4, 6]) (by kernel_rfl) (by simp) (AllReadyH.cons rfl (fun K hK => ?_) (AllReadyH.cons rfl (fun K hK => ?_) AllReadyH.nil))
              · obtain ⟨tA, hcA, htA⟩ := tabA_at _ tb x hx HT.out
                go_simp
                refine hK.out _ _ trivial (fun _ => ?_)
                clear hK K
                try simp only [Act.put, List.setIfInBounds_toArray, List.set_cons_zero, List.set_cons_succ]
                clear hcA
                refine wpAnyH_ready (rs := [6]) (by kernel_rfl) (by simp) (AllReadyH.cons rfl (fun K hK => ?_) AllReadyH.nil)
                · go_simp
                  refine (cText ⟨#[97, 98, 60, 38, 34, 62, 32, 49]⟩ 4 w0 a len cap b _ (by omega) (by omega) (by decide) (by decide) hlen HR.out HD.out.cur).mono ?_
                  rintro e W3 ⟨tC, rfl, htC, hC, hG⟩
                  replace HT := hid ((hG.block tb (lt_of_heap HT.out) (fun e => HTB.out (Option.some.inj e))).trans HT.out)
                  replace HX := hid ((hG.block bx (lt_of_heap HX.out) (fun e => by have := HXB.out.1; have := HD.out.lt; have := Option.some.inj e; omega)).trans HX.out)
                  replace HD := hid (HD.out.draw hC hG)
                  clear hC hG
                  go_wp2_with fail
                  refine hK.out _ _ trivial (fun _ => ?_)
                  clear hK K
                  try simp only [Act.put, List.setIfInBounds_toArray, List.set_cons_zero, List.set_cons_succ]
                  generalize W3 = W at *
                  refine wpAnyH_take (i := 7) (v := ?_) rfl (by kernel_rfl) (by kernel_rfl) (by kernel_rfl) (fun _ _ _ h => h) (Or.inl ⟨by rfl, ?_⟩) trivial ?_
                  rotate_left
                  · intro w hSw
                    go_simp
                    try (with_reducible rfl)
                  try simp only [Act.put, List.setIfInBounds_toArray, List.set_cons_zero, List.set_cons_succ]
                  refine wpAnyH_ready (rs := [9]) (by kernel_rfl) (by simp) (AllReadyH.cons rfl (fun K hK => ?_) AllReadyH.nil)
                  · obtain ⟨⟨e0, e1⟩, f0, f1⟩ := box2e HX.out
                    go_simp
                    refine hK.out _ _ trivial (fun _ => ?_)
                    clear hK K
                    try simp only [Act.put, List.setIfInBounds_toArray, List.set_cons_zero, List.set_cons_succ]
                    refine wpAnyH_done (by kernel_rfl) ?_ _
                    go_wp2_with fail
                    go_meet
                    exact ⟨bx, tA, tC, rfl, ⟨box_set2 HX.out, HXB.out, htA, Nat.le_of_lt htC, (HD.out.set HXB.out.1 HXB.out.2 0 _).set HXB.out.1 HXB.out.2 1 _⟩⟩
              · go_simp
                refine (cText ⟨#[97, 98, 60, 38, 34, 62, 32, 49]⟩ 4 w0 a len cap b _ (by omega) (by omega) (by decide) (by decide) hlen HR.out HD.out.cur).mono ?_
                rintro e W3 ⟨tC, rfl, htC, hC, hG⟩
                replace HT := hid ((hG.block tb (lt_of_heap HT.out) (fun e => HTB.out (Option.some.inj e))).trans HT.out)
                replace HX := hid ((hG.block bx (lt_of_heap HX.out) (fun e => by have := HXB.out.1; have := HD.out.lt; have := Option.some.inj e; omega)).trans HX.out)
                replace HD := hid (HD.out.draw hC hG)
                clear hC hG
                go_wp2_with fail
                refine hK.out _ _ trivial (fun _ => ?_)
                clear hK K
                try simp only [Act.put, List.setIfInBounds_toArray, List.set_cons_zero, List.set_cons_succ]
                generalize W3 = W at *
                refine wpAnyH_ready (rs := [4]) (by kernel_rfl) (by simp) (AllReadyH.cons rfl (fun K hK => ?_) AllReadyH.nil)
                · obtain ⟨tA, hcA, htA⟩ := tabA_at _ tb x hx HT.out
                  go_simp
                  refine hK.out _ _ trivial (fun _ => ?_)
                  clear hK K
                  try simp only [Act.put, List.setIfInBounds_toArray, List.set_cons_zero, List.set_cons_succ]
                  clear hcA
                  refine wpAnyH_take (i := 7) (v := ?_) rfl (by kernel_rfl) (by kernel_rfl) (by kernel_rfl) (fun _ _ _ h => h) (Or.inl ⟨by rfl, ?_⟩) trivial ?_
                  rotate_left
                  · intro w hSw
                    go_simp
                    try (with_reducible rfl)
                  try simp only [Act.put, List.setIfInBounds_toArray, List.set_cons_zero, List.set_cons_succ]
                  refine wpAnyH_ready (rs := [9]) (by kernel_rfl) (by simp) (AllReadyH.cons rfl (fun K hK => ?_) AllReadyH.nil)
                  · obtain ⟨⟨e0, e1⟩, f0, f1⟩ := box2e HX.out
                    go_simp
                    refine hK.out _ _ trivial (fun _ => ?_)
                    clear hK K
                    try simp only [Act.put, List.setIfInBounds_toArray, List.set_cons_zero, List.set_cons_succ]
                    refine wpAnyH_done (by kernel_rfl) ?_ _
                    go_wp2_with fail
                    go_meet
                    exact ⟨bx, tA, tC, rfl, ⟨box_set2 HX.out, HXB.out, htA, Nat.le_of_lt htC, (HD.out.set HXB.out.1 HXB.out.2 0 _).set HXB.out.1 HXB.out.2 1 _⟩⟩
            · go_simp
              refine (cText ⟨#[97, 98, 60, 38, 34, 62, 32, 49]⟩ 4 w0 a len cap b _ (by omega) (by omega) (by decide) (by decide) hlen HR.out HD.out.cur).mono ?_
              rintro e W3 ⟨tC, rfl, htC, hC, hG⟩
              replace HX := hid ((hG.block bx (lt_of_heap HX.out) (fun e => by have := HXB.out.1; have := HD.out.lt; have := Option.some.inj e; omega)).trans HX.out)
              replace HD := hid (HD.out.draw hC hG)
              clear hC hG
              go_wp2_with fail
              refine hK.out _ _ trivial (fun _ => ?_)
              clear hK K
              try simp only [Act.put, List.setIfInBounds_toArray, List.set_cons_zero, List.set_cons_succ]
              generalize W3 = W at *
              refine wpAnyH_ready (rs := [0]) (by kernel_rfl) (by simp) (AllReadyH.cons rfl (fun K hK => ?_) AllReadyH.nil)
              · have HTB := hid (show ¬ W.heap.size = b by have := HD.out.gr.size; have := HD.out.lt; omega)
                go_simp
                refine hK.out _ _ trivial (fun _ => ?_)
                clear hK K
                try simp only [Act.put, List.setIfInBounds_toArray, List.set_cons_zero, List.set_cons_succ]
                have HT := hid (heap_alloc_new W (.cells #[.string ⟨#[97]⟩, .string ⟨#[120]⟩, .string ⟨#[112, 58, 97]⟩, .string ⟨#[113, 58, 97]⟩, .string ⟨#[112, 58, 120]⟩, .string ⟨#[110, 115]⟩, .string ⟨#[110, 115, 58, 112]⟩, .string ⟨#[73, 100]⟩] 9))
                replace HD := hid (HD.out.alloc (.cells #[.string ⟨#[97]⟩, .string ⟨#[120]⟩, .string ⟨#[112, 58, 97]⟩, .string ⟨#[113, 58, 97]⟩, .string ⟨#[112, 58, 120]⟩, .string ⟨#[110, 115]⟩, .string ⟨#[110, 115, 58, 112]⟩, .string ⟨#[73, 100]⟩] 9))
                replace HX := hid (blk_alloc HX.out (.cells #[.string ⟨#[97]⟩, .string ⟨#[120]⟩, .string ⟨#[112, 58, 97]⟩, .string ⟨#[113, 58, 97]⟩, .string ⟨#[112, 58, 120]⟩, .string ⟨#[110, 115]⟩, .string ⟨#[110, 115, 58, 112]⟩, .string ⟨#[73, 100]⟩] 9))
                generalize W.heap.size = tb at *
                generalize W.alloc (.cells #[.string ⟨#[97]⟩, .string ⟨#[120]⟩, .string ⟨#[112, 58, 97]⟩, .string ⟨#[113, 58, 97]⟩, .string ⟨#[112, 58, 120]⟩, .string ⟨#[110, 115]⟩, .string ⟨#[110, 115, 58, 112]⟩, .string ⟨#[73, 100]⟩] 9) = W at *
                refine wpAnyH_take (i := 3) (v := ?_) rfl (by kernel_rfl) (by kernel_rfl) (by kernel_rfl) (fun _ _ _ h => h) (Or.inl ⟨by rfl, ?_⟩) trivial ?_
                rotate_left
                · intro w hSw
                  go_simp
                  try (with_reducible rfl)
                try simp only [Act.put, List.setIfInBounds_toArray, List.set_cons_zero, List.set_cons_succ]
                refine wpAnyH_ready (rs := [4]) (by kernel_rfl) (by simp) (AllReadyH.cons rfl (fun K hK => ?_) AllReadyH.nil)
                · obtain ⟨tA, hcA, htA⟩ := tabA_at _ tb x hx HT.out
                  go_simp
                  refine hK.out _ _ trivial (fun _ => ?_)
                  clear hK K
                  try simp only [Act.put, List.setIfInBounds_toArray, List.set_cons_zero, List.set_cons_succ]
                  clear hcA
                  refine wpAnyH_take (i := 7) (v := ?_) rfl (by kernel_rfl) (by kernel_rfl) (by kernel_rfl) (fun _ _ _ h => h) (Or.inl ⟨by rfl, ?_⟩) trivial ?_
                  rotate_left
                  · intro w hSw
                    go_simp
                    try (with_reducible rfl)
                  try simp only [Act.put, List.setIfInBounds_toArray, List.set_cons_zero, List.set_cons_succ]
                  refine wpAnyH_ready (rs := [9]) (by kernel_rfl) (by simp) (AllReadyH.cons rfl (fun K hK => ?_) AllReadyH.nil)
                  · obtain ⟨⟨e0, e1⟩, f0, f1⟩ := box2e HX.out
                    go_simp
                    refine hK.out _ _ trivial (fun _ => ?_)
                    clear hK K
                    try simp only [Act.put, List.setIfInBounds_toArray, List.set_cons_zero, List.set_cons_succ]
                    refine wpAnyH_done (by kernel_rfl) ?_ _
                    go_wp2_with fail
                    go_meet
                    exact ⟨bx, tA, tC, rfl, ⟨box_set2 HX.out, HXB.out, htA, Nat.le_of_lt htC, (HD.out.set HXB.out.1 HXB.out.2 0 _).set HXB.out.1 HXB.out.2 1 _⟩⟩
        · have HXB := hid (show w.heap.size ≤ W.heap.size ∧ ¬ v.ownBlock = some W.heap.size from ⟨HD.out.gr.size, fun e => by have := (HD.out.own.lt _ e).2; omega⟩)
          go_simp
          refine hK.out _ _ trivial (fun _ => ?_)
          clear hK K
          try simp only [Act.put, List.setIfInBounds_toArray, List.set_cons_zero, List.set_cons_succ]
          have HX := hid (heap_alloc_new W (.cells #[.string ⟨#[]⟩, .string ⟨#[]⟩] 66))
          replace HD := hid (HD.out.alloc (.cells #[.string ⟨#[]⟩, .string ⟨#[]⟩] 66))
          generalize W.heap.size = bx at *
          generalize W.alloc (.cells #[.string ⟨#[]⟩, .string ⟨#[]⟩] 66) = W at *
          refine wpAnyH_ready (rs := [0, 2]) (by kernel_rfl) (by simp) (AllReadyH.cons rfl (fun K hK => ?_) (AllReadyH.cons rfl (fun K hK => ?_) AllReadyH.nil))
          · have HTB := hid (show ¬ W.heap.size = b by have := HD.out.gr.size; have := HD.out.lt; omega)
            go_simp
            refine hK.out _ _ trivial (fun _ => ?_)
            clear hK K
            try simp only [Act.put, List.setIfInBounds_toArray, List.set_cons_zero, List.set_cons_succ]
            have HT := hid (heap_alloc_new W (.cells #[.string ⟨#[97]⟩, .string ⟨#[120]⟩, .string ⟨#[112, 58, 97]⟩, .string ⟨#[113, 58, 97]⟩, .string ⟨#[112, 58, 120]⟩, .string ⟨#[110, 115]⟩, .string ⟨#[110, 115, 58, 112]⟩, .string ⟨#[73, 100]⟩] 9))
            replace HD := hid (HD.out.alloc (.cells #[.string ⟨#[97]⟩, .string ⟨#[120]⟩, .string ⟨#[112, 58, 97]⟩, .string ⟨#[113, 58, 97]⟩, .string ⟨#[112, 58, 120]⟩, .string ⟨#[110, 115]⟩, .string ⟨#[110, 115, 58, 112]⟩, .string ⟨#[73, 100]⟩] 9))
            replace HX := hid (blk_alloc HX.out (.cells #[.string ⟨#[97]⟩, .string ⟨#[120]⟩, .string ⟨#[112, 58, 97]⟩, .string ⟨#[113, 58, 97]⟩, .string ⟨#[112, 58, 120]⟩, .string ⟨#[110, 115]⟩, .string ⟨#[110, 115, 58, 112]⟩, .string ⟨#[73, 100]⟩] 9))
            generalize W.heap.size = tb at *
            generalize W.alloc (.cells #[.string ⟨#[97]⟩, .string ⟨#[120]⟩, .string ⟨#[112, 58, 97]⟩, .string ⟨#[113, 58, 97]⟩, .string ⟨#[112, 58, 120]⟩, .string ⟨#[110, 115]⟩, .string ⟨#[110, 115, 58, 112]⟩, .string ⟨#[73, 100]⟩] 9) = W at *
            refine wpAnyH_ready (rs := [2]) (by kernel_rfl) (by simp) (AllReadyH.cons rfl (fun K hK => ?_) AllReadyH.nil)
            · go_simp
              refine (cBelow 8 w0 a len cap b _ hlen HR.out HD.out.cur (by omega) (by omega)).mono ?_
              rintro e W2 ⟨x, rfl, hx, hC, hG⟩
              replace HT := hid ((hG.block tb (lt_of_heap HT.out) (fun e => HTB.out (Option.some.inj e))).trans HT.out)
              replace HX := hid ((hG.block bx (lt_of_heap HX.out) (fun e => by have := HXB.out.1; have := HD.out.lt; have := Option.some.inj e; omega)).trans HX.out)
              replace HD := hid (HD.out.draw hC hG)
              have hx8 : (x : Int) < 8 := by omega
              clear hC hG
              go_wp2_with fail
              refine hK.out _ _ trivial (fun _ => ?_)
              clear hK K
              try simp only [Act.put, List.setIfInBounds_toArray, List.set_cons_zero, List.set_cons_succ]
              generalize W2 = W at *
              refine wpAnyH_take (i := 3) (v := ?_) rfl (by kernel_rfl) (by kernel_rfl) (by kernel_rfl) (fun _ _ _ h => h) (Or.inl ⟨by rfl, ?_⟩) trivial ?_
              rotate_left
              · intro w hSw
                go_simp
                try (with_reducible rfl)
              try simp only [Act.put, List.setIfInBounds_toArray, List.set_cons_zero, List.set_cons_succ]
              refine wpAnyH_ready (rs := [4, 6]) (by kernel_rfl) (by simp) (AllReadyH.cons rfl (fun K hK => ?_) (AllReadyH.cons rfl (fun K hK => ?_) AllReadyH.nil))
              · obtain ⟨tA, hcA, htA⟩ := tabA_at _ tb x hx HT.out
                go_simp
                refine hK.out _ _ trivial (fun _ => ?_)
                clear hK K
                try simp only [Act.put, List.setIfInBounds_toArray, List.set_cons_zero, List.set_cons_succ]
                clear hcA
                refine wpAnyH_ready (rs := [6]) (by kernel_rfl) (by simp) (AllReadyH.cons rfl (fun K hK => ?_) AllReadyH.nil)
                · go_simp
                  refine (cText ⟨#[97, 98, 60, 38, 34, 62, 32, 49]⟩ 4 w0 a len cap b _ (by omega) (by omega) (by decide) (by decide) hlen HR.out HD.out.cur).mono ?_
                  rintro e W3 ⟨tC, rfl, htC, hC, hG⟩
                  replace HT := hid ((hG.block tb (lt_of_heap HT.out) (fun e => HTB.out (Option.some.inj e))).trans HT.out)
                  replace HX := hid ((hG.block bx (lt_of_heap HX.out) (fun e => by have := HXB.out.1; have := HD.out.lt; have := Option.some.inj e; omega)).trans HX.out)
                  replace HD := hid (HD.out.draw hC hG)
                  clear hC hG
                  go_wp2_with fail
                  refine hK.out _ _ trivial (fun _ => ?_)
                  clear hK K
                  try simp only [Act.put, List.setIfInBounds_toArray, List.set_cons_zero, List.set_cons_succ]
                  generalize W3 = W at *
                  refine wpAnyH_take (i := 7) (v := ?_) rfl (by kernel_rfl) (by kernel_rfl) (by kernel_rfl) (fun _ _ _ h => h) (Or.inl ⟨by rfl, ?_⟩) trivial ?_
                  rotate_left
                  · intro w hSw
                    go_simp
                    try (with_reducible rfl)
                  try simp only [Act.put, List.setIfInBounds_toArray, List.set_cons_zero, List.set_cons_succ]
                  refine wpAnyH_ready (rs := [9]) (by kernel_rfl) (by simp) (AllReadyH.cons rfl (fun K hK => ?_) AllReadyH.nil)
                  · obtain ⟨⟨e0, e1⟩, f0, f1⟩ := box2e HX.out
                    go_simp
                    refine hK.out _ _ trivial (fun _ => ?_)
                    clear hK K
                    try simp only [Act.put, List.setIfInBounds_toArray, List.set_cons_zero, List.set_cons_succ]
                    refine wpAnyH_done (by kernel_rfl) ?_ _
                    go_wp2_with fail
                    go_meet
                    exact ⟨bx, tA, tC, rfl, ⟨box_set2 HX.out, HXB.out, htA, Nat.le_of_lt htC, (HD.out.set HXB.out.1 HXB.out.2 0 _).set HXB.out.1 HXB.out.2 1 _⟩⟩
              · go_simp
                refine (cText ⟨#[97, 98, 60, 38, 34, 62, 32, 49]⟩ 4 w0 a len cap b _ (by omega) (by omega) (by decide) (by decide) hlen HR.out HD.out.cur).mono ?_
                rintro e W3 ⟨tC, rfl, htC, hC, hG⟩
                replace HT := hid ((hG.block tb (lt_of_heap HT.out) (fun e => HTB.out (Option.some.inj e))).trans HT.out)
                replace HX := hid ((hG.block bx (lt_of_heap HX.out) (fun e => by have := HXB.out.1; have := HD.out.lt; have := Option.some.inj e; omega)).trans HX.out)
                replace HD := hid (HD.out.draw hC hG)
                clear hC hG
                go_wp2_with fail
                refine hK.out _ _ trivial (fun _ => ?_)
                clear hK K
                try simp only [Act.put, List.setIfInBounds_toArray, List.set_cons_zero, List.set_cons_succ]
                generalize W3 = W at *
                refine wpAnyH_ready (rs := [4]) (by kernel_rfl) (by simp) (AllReadyH.cons rfl (fun K hK => ?_) AllReadyH.nil)
                · obtain ⟨tA, hcA, htA⟩ := tabA_at _ tb x hx HT.out
                  go_simp
                  refine hK.out _ _ trivial (fun _ => ?_)
                  clear hK K
                  try simp only [Act.put, List.setIfInBounds_toArray, List.set_cons_zero, List.set_cons_succ]
                  clear hcA
                  refine wpAnyH_take (i := 7) (v := ?_) rfl (by kernel_rfl) (by kernel_rfl) (by kernel_rfl) (fun _ _ _ h => h) (Or.inl ⟨by rfl, ?_⟩) trivial ?_
                  rotate_left
                  · intro w hSw
                    go_simp
                    try (with_reducible rfl)
                  try simp only [Act.put, List.setIfInBounds_toArray, List.set_cons_zero, List.set_cons_succ]
                  refine wpAnyH_ready (rs := [9]) (by kernel_rfl) (by simp) (AllReadyH.cons rfl (fun K hK => ?_) AllReadyH.nil)
                  · obtain ⟨⟨e0, e1⟩, f0, f1⟩ := box2e HX.out
                    go_simp
                    refine hK.out _ _ trivial (fun _ => ?_)
                    clear hK K
                    try simp only [Act.put, List.setIfInBounds_toArray, List.set_cons_zero, List.set_cons_succ]
                    refine wpAnyH_done (by kernel_rfl) ?_ _
                    go_wp2_with fail
                    go_meet
                    exact ⟨bx, tA, tC, rfl, ⟨box_set2 HX.out, HXB.out, htA, Nat.le_of_lt htC, (HD.out.set HXB.out.1 HXB.out.2 0 _).set HXB.out.1 HXB.out.2 1 _⟩⟩
          · go_simp
            refine (cBelow 8 w0 a len cap b _ hlen HR.out HD.out.cur (by omega) (by omega)).mono ?_
            rintro e W2 ⟨x, rfl, hx, hC, hG⟩
            replace HX := hid ((hG.block bx (lt_of_heap HX.out) (fun e => by have := HXB.out.1; have := HD.out.lt; have := Option.some.inj e; omega)).trans HX.out)
            replace HD := hid (HD.out.draw hC hG)
            have hx8 : (x : Int) < 8 := by omega
            clear hC hG
            go_wp2_with fail
            refine hK.out _ _ trivial (fun _ => ?_)
            clear hK K
            try simp only [Act.put, List.setIfInBounds_toArray, List.set_cons_zero, List.set_cons_succ]
            generalize W2 = W at *
            refine wpAnyH_ready (rs := [0, 6]) (by kernel_rfl) (by simp) (AllReadyH.cons rfl (fun K hK => ?_) (AllReadyH.cons rfl (fun K hK => ?_) AllReadyH.nil))
            · have HTB := hid (show ¬ W.heap.size = b by have := HD.out.gr.size; have := HD.out.lt; omega)
              go_simp
              refine hK.out _ _ trivial (fun _ => ?_)
              clear hK K
              try simp only [Act.put, List.setIfInBounds_toArray, List.set_cons_zero, List.set_cons_succ]
              have HT := hid (heap_alloc_new W (.cells #[.string ⟨#[97]⟩, .string ⟨#[120]⟩, .string ⟨#[112, 58, 97]⟩, .string ⟨#[113, 58, 97]⟩, .string ⟨#[112, 58, 120]⟩, .string ⟨#[110, 115]⟩, .string ⟨#[110, 115, 58, 112]⟩, .string ⟨#[73, 100]⟩] 9))
              replace HD := hid (HD.out.alloc (.cells #[.string ⟨#[97]⟩, .string ⟨#[120]⟩, .string ⟨#[112, 58, 97]⟩, .string ⟨#[113, 58, 97]⟩, .string ⟨#[112, 58, 120]⟩, .string ⟨#[110, 115]⟩, .string ⟨#[110, 115, 58, 112]⟩, .string ⟨#[73, 100]⟩] 9))
              replace HX := hid (blk_alloc HX.out (.cells #[.string ⟨#[97]⟩, .string ⟨#[120]⟩, .string ⟨#[112, 58, 97]⟩, .string ⟨#[113, 58, 97]⟩, .string ⟨#[112, 58, 120]⟩, .string ⟨#[110, 115]⟩, .string ⟨#[110, 115, 58, 112]⟩, .string ⟨#[73, 100]⟩] 9))
              generalize W.heap.size = tb at *
              generalize W.alloc (.cells #[.string ⟨#[97]⟩, .string ⟨#[120]⟩, .string ⟨#[112, 58, 97]⟩, .string ⟨#[113, 58, 97]⟩, .string ⟨#[112, 58, 120]⟩, .string ⟨#[110, 115]⟩, .string ⟨#[110, 115, 58, 112]⟩, .string ⟨#[73, 100]⟩] 9) = W at *
              refine wpAnyH_take (i := 3) (v := ?_) rfl (by kernel_rfl) (by kernel_rfl) (by kernel_rfl) (fun _ _ _ h => h) (Or.inl ⟨by rfl, ?_⟩) trivial ?_
              rotate_left
              · intro w hSw
                go_simp
                try (with_reducible rfl)
              try simp only [Act.put, List.setIfInBounds_toArray, List.set_cons_zero, List.set_cons_succ]
              refine wpAnyH_ready (rs := [4, 6]) (by kernel_rfl) (by simp) (AllReadyH.cons rfl (fun K hK => ?_) (AllReadyH.cons rfl (fun K hK => ?_) AllReadyH.nil))
              · obtain ⟨tA, hcA, htA⟩ := tabA_at _ tb x hx HT.out
                go_simp
                refine hK.out _ _ trivial (fun _ => ?_)
                clear hK K
                try simp only [Act.put, List.setIfInBounds_toArray, List.set_cons_zero, List.set_cons_succ]
                clear hcA
                refine wpAnyH_ready (rs := [6]) (by kernel_rfl) (by simp) (AllReadyH.cons rfl (fun K hK => ?_) AllReadyH.nil)
                · go_simp
                  refine (cText ⟨#[97, 98, 60, 38, 34, 62, 32, 49]⟩ 4 w0 a len cap b _ (by omega) (by omega) (by decide) (by decide) hlen HR.out HD.out.cur).mono ?_
                  rintro e W3 ⟨tC, rfl, htC, hC, hG⟩
                  replace HT := hid ((hG.block tb (lt_of_heap HT.out) (fun e => HTB.out (Option.some.inj e))).trans HT.out)
                  replace HX := hid ((hG.block bx (lt_of_heap HX.out) (fun e => by have := HXB.out.1; have := HD.out.lt; have := Option.some.inj e; omega)).trans HX.out)
                  replace HD := hid (HD.out.draw hC hG)
                  clear hC hG
                  go_wp2_with fail
                  refine hK.out _ _ trivial (fun _ => ?_)
                  clear hK K
                  try simp only [Act.put, List.setIfInBounds_toArray, List.set_cons_zero, List.set_cons_succ]
                  generalize W3 = W at *
                  refine wpAnyH_take (i := 7) (v := ?_) rfl (by kernel_rfl) (by kernel_rfl) (by kernel_rfl) (fun _ _ _ h => h) (Or.inl ⟨by rfl, ?_⟩) trivial ?_
                  rotate_left
                  · intro w hSw
                    go_simp
                    try (with_reducible rfl)
                  try simp only [Act.put, List.setIfInBounds_toArray, List.set_cons_zero, List.set_cons_succ]
                  refine wpAnyH_ready (rs := [9]) (by kernel_rfl) (by simp) (AllReadyH.cons rfl (fun K hK => ?_) AllReadyH.nil)
                  · obtain ⟨⟨e0, e1⟩, f0, f1⟩ := box2e HX.out
                    go_simp
                    refine hK.out _ _ trivial (fun _ => ?_)
                    clear hK K
                    try simp only [Act.put, List.setIfInBounds_toArray, List.set_cons_zero, List.set_cons_succ]
                    refine wpAnyH_done (by kernel_rfl) ?_ _
                    go_wp2_with fail
                    go_meet
                    exact ⟨bx, tA, tC, rfl, ⟨box_set2 HX.out, HXB.out, htA, Nat.le_of_lt htC, (HD.out.set HXB.out.1 HXB.out.2 0 _).set HXB.out.1 HXB.out.2 1 _⟩⟩
              · go_simp
                refine (cText ⟨#[97, 98, 60, 38, 34, 62, 32, 49]⟩ 4 w0 a len cap b _ (by omega) (by omega) (by decide) (by decide) hlen HR.out HD.out.cur).mono ?_
                rintro e W3 ⟨tC, rfl, htC, hC, hG⟩
                replace HT := hid ((hG.block tb (lt_of_heap HT.out) (fun e => HTB.out (Option.some.inj e))).trans HT.out)
                replace HX := hid ((hG.block bx (lt_of_heap HX.out) (fun e => by have := HXB.out.1; have := HD.out.lt; have := Option.some.inj e; omega)).trans HX.out)
                replace HD := hid (HD.out.draw hC hG)
                clear hC hG
                go_wp2_with fail
                refine hK.out _ _ trivial (fun _ => ?_)
                clear hK K
                try simp only [Act.put, List.setIfInBounds_toArray, List.set_cons_zero, List.set_cons_succ]
                generalize W3 = W at *
                refine wpAnyH_ready (rs := [4]) (by kernel_rfl) (by simp) (AllReadyH.cons rfl (fun K hK => ?_) AllReadyH.nil)
                · obtain ⟨tA, hcA, htA⟩ := tabA_at _ tb x hx HT.out
                  go_simp
                  refine hK.out _ _ trivial (fun _ => ?_)
                  clear hK K
                  try simp only [Act.put, List.setIfInBounds_toArray, List.set_cons_zero, List.set_cons_succ]
                  clear hcA
                  refine wpAnyH_take (i := 7) (v := ?_) rfl (by kernel_rfl) (by kernel_rfl) (by kernel_rfl) (fun _ _ _ h => h) (Or.inl ⟨by rfl, ?_⟩) trivial ?_
                  rotate_left
                  · intro w hSw
                    go_simp
                    try (with_reducible rfl)
                  try simp only [Act.put, List.setIfInBounds_toArray, List.set_cons_zero, List.set_cons_succ]
                  refine wpAnyH_ready (rs := [9]) (by kernel_rfl) (by simp) (AllReadyH.cons rfl (fun K hK => ?_) AllReadyH.nil)
                  · obtain ⟨⟨e0, e1⟩, f0, f1⟩ := box2e HX.out
                    go_simp
                    refine hK.out _ _ trivial (fun _ => ?_)
                    clear hK K
                    try simp only [Act.put, List.setIfInBounds_toArray, List.set_cons_zero, List.set_cons_succ]
                    refine wpAnyH_done (by kernel_rfl) ?_ _
                    go_wp2_with fail
                    go_meet
                    exact ⟨bx, tA, tC, rfl, ⟨box_set2 HX.out, HXB.out, htA, Nat.le_of_lt htC, (HD.out.set HXB.out.1 HXB.out.2 0 _).set HXB.out.1 HXB.out.2 1 _⟩⟩
            · go_simp
              refine (cText ⟨#[97, 98, 60, 38, 34, 62, 32, 49]⟩ 4 w0 a len cap b _ (by omega) (by omega) (by decide) (by decide) hlen HR.out HD.out.cur).mono ?_
              rintro e W3 ⟨tC, rfl, htC, hC, hG⟩
              replace HX := hid ((hG.block bx (lt_of_heap HX.out) (fun e => by have := HXB.out.1; have := HD.out.lt; have := Option.some.inj e; omega)).trans HX.out)
              replace HD := hid (HD.out.draw hC hG)
              clear hC hG
              go_wp2_with fail
              refine hK.out _ _ trivial (fun _ => ?_)
              clear hK K
              try simp only [Act.put, List.setIfInBounds_toArray, List.set_cons_zero, List.set_cons_succ]
              generalize W3 = W at *
              refine wpAnyH_ready (rs := [0]) (by kernel_rfl) (by simp) (AllReadyH.cons rfl (fun K hK => ?_) AllReadyH.nil)
              · have HTB := hid (show ¬ W.heap.size = b by have := HD.out.gr.size; have := HD.out.lt; omega)
                go_simp
                refine hK.out _ _ trivial (fun _ => ?_)
                clear hK K
                try simp only [Act.put, List.setIfInBounds_toArray, List.set_cons_zero, List.set_cons_succ]
                have HT := hid (heap_alloc_new W (.cells #[.string ⟨#[97]⟩, .string ⟨#[120]⟩, .string ⟨#[112, 58, 97]⟩, .string ⟨#[113, 58, 97]⟩, .string ⟨#[112, 58, 120]⟩, .string ⟨#[110, 115]⟩, .string ⟨#[110, 115, 58, 112]⟩, .string ⟨#[73, 100]⟩] 9))
                replace HD := hid (HD.out.alloc (.cells #[.string ⟨#[97]⟩, .string ⟨#[120]⟩, .string ⟨#[112, 58, 97]⟩, .string ⟨#[113, 58, 97]⟩, .string ⟨#[112, 58, 120]⟩, .string ⟨#[110, 115]⟩, .string ⟨#[110, 115, 58, 112]⟩, .string ⟨#[73, 100]⟩] 9))
                replace HX := hid (blk_alloc HX.out (.cells #[.string ⟨#[97]⟩, .string ⟨#[120]⟩, .string ⟨#[112, 58, 97]⟩, .string ⟨#[113, 58, 97]⟩, .string ⟨#[112, 58, 120]⟩, .string ⟨#[110, 115]⟩, .string ⟨#[110, 115, 58, 112]⟩, .string ⟨#[73, 100]⟩] 9))
                generalize W.heap.size = tb at *
                generalize W.alloc (.cells #[.string ⟨#[97]⟩, .string ⟨#[120]⟩, .string ⟨#[112, 58, 97]⟩, .string ⟨#[113, 58, 97]⟩, .string ⟨#[112, 58, 120]⟩, .string ⟨#[110, 115]⟩, .string ⟨#[110, 115, 58, 112]⟩, .string ⟨#[73, 100]⟩] 9) = W at *
                refine wpAnyH_take (i := 3) (v := ?_) rfl (by kernel_rfl) (by kernel_rfl) (by kernel_rfl) (fun _ _ _ h => h) (Or.inl ⟨by rfl, ?_⟩) trivial ?_
                rotate_left
                · intro w hSw
                  go_simp
                  try (with_reducible rfl)
                try simp only [Act.put, List.setIfInBounds_toArray, List.set_cons_zero, List.set_cons_succ]
                refine wpAnyH_ready (rs := [4]) (by kernel_rfl) (by simp) (AllReadyH.cons rfl (fun K hK => ?_) AllReadyH.nil)
                · obtain ⟨tA, hcA, htA⟩ := tabA_at _ tb x hx HT.out
                  go_simp
                  refine hK.out _ _ trivial (fun _ => ?_)
                  clear hK K
                  try simp only [Act.put, List.setIfInBounds_toArray, List.set_cons_zero, List.set_cons_succ]
                  clear hcA
                  refine wpAnyH_take (i := 7) (v := ?_) rfl (by kernel_rfl) (by kernel_rfl) (by kernel_rfl) (fun _ _ _ h => h) (Or.inl ⟨by rfl, ?_⟩) trivial ?_
                  rotate_left
                  · intro w hSw
                    go_simp
                    try (with_reducible rfl)
                  try simp only [Act.put, List.setIfInBounds_toArray, List.set_cons_zero, List.set_cons_succ]
                  refine wpAnyH_ready (rs := [9]) (by kernel_rfl) (by simp) (AllReadyH.cons rfl (fun K hK => ?_) AllReadyH.nil)
                  · obtain ⟨⟨e0, e1⟩, f0, f1⟩ := box2e HX.out
                    go_simp
                    refine hK.out _ _ trivial (fun _ => ?_)
                    clear hK K
                    try simp only [Act.put, List.setIfInBounds_toArray, List.set_cons_zero, List.set_cons_succ]
                    refine wpAnyH_done (by kernel_rfl) ?_ _
                    go_wp2_with fail
                    go_meet
                    exact ⟨bx, tA, tC, rfl, ⟨box_set2 HX.out, HXB.out, htA, Nat.le_of_lt htC, (HD.out.set HXB.out.1 HXB.out.2 0 _).set HXB.out.1 HXB.out.2 1 _⟩⟩
      case rest =>
        obtain ⟨bx, tA, tC, rfl, HX⟩ := hcut
        obtain ⟨hm, hxb, hs1, hs2, hd⟩ := HX.out
        have HM := hid hm
        have HXB := hid hxb
        have HDc := hid hd
        clear HX hm hxb hd HD
        obtain ⟨⟨e0, e1⟩, f0, f1⟩ := box2e HM.out
        have HSA := hid hs1
        obtain ⟨B1, hB1⟩ : ∃ B : Bool, (tA.toList == [110, 115]) = B := ⟨_, rfl⟩
        obtain ⟨B2, hB2⟩ : ∃ B : Bool, (tA.toList == [110, 115, 58, 112]) = B := ⟨_, rfl⟩
        obtain ⟨B3, hB3⟩ : ∃ B : Bool, (tA.toList == [73, 100]) = B := ⟨_, rfl⟩
        go_upto_region 8 with fail
        go_cut [46] from 27 to 72 (fun x wv => x = .bool (B1 || B2) ∧ wv = wc)
        case first =>
          cases B1
          · go_wp2_with fail
            go_meet
            exact ⟨rfl, rfl⟩
          · go_wp2_with fail
            go_meet
            exact ⟨rfl, rfl⟩
        case rest =>
          obtain ⟨rfl, rfl⟩ := hcut
          obtain ⟨BB, hBB⟩ : ∃ B, (B1 || B2) = B := ⟨_, rfl⟩
          rw [hBB]
          clear hBB hB1 hB2
          go_upto_if 46 with fail
          go_cut [39] from 27 to 72 (fun x wv => ∃ y : ByteArray, Hid (wv.heap[bx]? = some (.cells #[.string tA, .string y] 66 (0, 0)) ∧ y.size ≤ 5 ∧ DSt w0 a len cap b w wv v l))
          case first =>
            have hbxb : ¬ bx = b := by have := HXB.out.1; have := HDc.out.lt; omega
            cases BB
            · go_wp2_with fail
              go_meet
              exact ⟨tC, HM.out, by omega, HDc.out⟩
            · go_wp2_with fail
              refine (cBelow 3 w0 a len cap b _ hlen HR.out (HDc.out.alloc _).cur (by omega) (by omega)).mono ?_
              rintro e w3 ⟨x, rfl, hx, hC3, hG3⟩
              have HD3 := hid ((HDc.out.alloc _).draw hC3 hG3)
              have HT3 := hid ((hG3.block wc.heap.size (by simp) (fun e => by have h4 : wc.heap.size = b := Option.some.inj e; have := HDc.out.gr.size; have := HDc.out.lt; omega)).trans (heap_alloc_new wc _))
              have HM3 := hid ((hG3.block bx (lt_of_heap (blk_alloc HM.out _)) (fun e => hbxb (Option.some.inj e))).trans (blk_alloc HM.out _))
              obtain ⟨t3, hc3, hs3⟩ := tab3_at w3 wc.heap.size x hx HT3.out
              have hx3 : (x : Int) < 3 := by omega
              clear e0 e1 f0 f1 hC3 hG3
              obtain ⟨⟨e0, e1⟩, f0, f1⟩ := box2e HM3.out
              go_wp2_with fail
              go_meet
              exact ⟨t3, box_set1 HM3.out, by omega, HD3.out.set HXB.out.1 HXB.out.2 1 _⟩
          case rest =>
            obtain ⟨y1, HX⟩ := hcut
            obtain ⟨hm, hs3, hd⟩ := HX.out
            have HM4 := hid hm
            have HD4 := hid hd
            clear HX hm hd HM HDc e0 e1 f0 f1
            obtain ⟨⟨e0, e1⟩, f0, f1⟩ := box2e HM4.out
            go_upto_if 55 with fail
            go_cut [39] from 27 to 72 (fun x wv => ∃ y : ByteArray, Hid (wv.heap[bx]? = some (.cells #[.string tA, .string y] 66 (0, 0)) ∧ y.size ≤ 5 ∧ DSt w0 a len cap b w wv v l))
            case first =>
              have hbxb : ¬ bx = b := by have := HXB.out.1; have := HD4.out.lt; omega
              cases B3
              · go_wp2_with fail
                go_meet
                exact ⟨y1, HM4.out, by omega, HD4.out⟩
              · go_wp2_with fail
                refine (cText ⟨#[48, 49, 50, 51, 52, 53]⟩ 3 w0 a len cap b _ (by omega) (by omega) (by decide) (by decide) hlen HR.out HD4.out.cur).mono ?_
                rintro e w3 ⟨t5, rfl, ht5, hC3, hG3⟩
                have HD3 := hid (HD4.out.draw hC3 hG3)
                have HM3 := hid ((hG3.block bx (lt_of_heap HM4.out) (fun e => hbxb (Option.some.inj e))).trans HM4.out)
                obtain ⟨S5, hS5⟩ : ∃ S, (⟨#[105]⟩ : ByteArray) ++ t5 = S := ⟨_, rfl⟩
                have hz5 : S5.size = 1 + t5.size := by rw [← hS5, ByteArray.size_append]; rfl
                have hov : ¬ 9223372036854775807 < (⟨#[105]⟩ : ByteArray).size + t5.size := by rw [show (⟨#[105]⟩ : ByteArray).size = 1 from rfl]; omega
                have hz6 : S5.size ≤ 5 := by omega
                clear e0 e1 f0 f1 hC3 hG3 hz5
                obtain ⟨⟨e0, e1⟩, f0, f1⟩ := box2e HM3.out
                go_wp2_with fail
                go_meet
                exact ⟨S5, box_set1 HM3.out, hz6, HD3.out.set HXB.out.1 HXB.out.2 1 _⟩
            case rest =>
              obtain ⟨y2, HX⟩ := hcut
              obtain ⟨hm, hs4, hd⟩ := HX.out
              have HM5 := hid hm
              have HD5 := hid hd
              clear HX hm hd HM4 HD4 e0 e1 f0 f1
              obtain ⟨⟨e0, e1⟩, f0, f1⟩ := box2e HM5.out
              obtain ⟨a5, c5, hv5, hoa⟩ := HD5.out.row
              have CV := hid (cValueInS a5 c5 l tA wc hoa.atRow (fun x hx => by have := HD5.out.sz x hx; omega) (by omega) (by have := HSA.out; omega))
              obtain ⟨VF, hVF⟩ : ∃ VF, valF l tA = VF := ⟨_, rfl⟩
              rw [hVF] at CV
              subst hv5
              obtain ⟨L, hL⟩ : ∃ L, l.length = L := ⟨_, rfl⟩
              have HL := hid hL
              rw [hL] at CV hlk HXB HD5 ⊢
              obtain ⟨k1, rfl⟩ : ∃ k1, k = k1 + 1 := ⟨k - 1, by omega⟩
              clear hVF hL hoa
              cases VF with
              | some z =>
                go_wp2_with fail
                refine CV.out.mono ?_
                rintro e w4 ⟨rfl, rfl⟩
                go_wp2_with fail
                go_roundw
                case rel => exact ⟨k1, l, by go_num, by omega, by rw [HL.out]; omega, HD5.out⟩
                case measure => first | (simp [intOf]; omega) | simp [intOf]
              | none =>
                obtain ⟨i0, hi, hz0, hz1, hz2⟩ := info_parts infoAtW
                have HOA := hid (HD5.out.own.alloc (.cells #[.string tA, .string y2] 66))
                have HDA := hid (HD5.out.alloc (.cells #[.string tA, .string y2] 66))
                have HNE := hid (two_cells wc (.string tA) (.string y2) 66)
                have HON := hid (show ∀ u ∈ [Value.string tA, .string y2], u.oneCell' = true by
                  intro u hu
                  simp at hu
                  rcases hu with rfl | rfl <;> rfl)
                have hwb := HD5.out.gr.size
                rw [HL.out] at HOA
                go_wp2_with fail
                refine CV.out.mono ?_
                rintro e w4 ⟨rfl, rfl⟩
                go_wp2_with (at_builtin; refine wpList_append_own _ rfl _ _ 54 rfl w.heap.size 66 i0 _ 2 32 Try.underlying54 hi hz0 hz1 hz2 rfl (by decide) _ _ _ rfl HOA.out ⟨w4.heap.size, 0, none⟩ 1 1 [.string tA, .string y2] rfl rfl ?c1 ?c2 ?c3 ?c4 ?c5 ?_)
                case c1 => exact HNE.out
                case c2 => exact HON.out
                case c3 => unfold maxLen; omega
                case c4 => omega
                case c5 => simp; omega
                intro v6 w6 hown6 hgrow6 _
                have HD6 := hid (HDA.out.join (m := [⟨tA, y2⟩]) (fun x hx => by
                  rw [List.mem_singleton] at hx
                  subst hx
                  exact ⟨by show tA.size ≤ 20; have := HSA.out; omega, by show y2.size ≤ 20; omega⟩) (by rw [HL.out]; exact hown6) hgrow6)
                obtain ⟨a6, c6, hv6⟩ := own_len hown6
                subst hv6
                clear hown6 hgrow6
                go_wp2_with fail
                go_roundw
                case rel => exact ⟨k1, l ++ [(⟨tA, y2⟩ : At)], by go_num, by omega, by rw [List.length_append, HL.out]; simp; omega, HD6.out⟩
                case measure => first | (simp [intOf]; omega) | simp [intOf]

end Go.Proofs.Ytbiblabmhlgnoaa

namespace Go.Proofs.Ytbiblabmhlgnoaa
set_option linter.unusedVariables false

def nodeAt (ts : List Tk) (k : Nat) : Tk := match ts[k]? with | some t => t | none => ⟨0, ⟨#[]⟩, [], ⟨#[]⟩⟩

theorem nodeAt_at {ts : List Tk} {k : Nat} (h : k < ts.length) : nodeAt ts k = ts[k] := by unfold nodeAt; rw [List.getElem?_eq_getElem h]

/-- TkOpen, TkClose and TkText of a node. -/
def opT (t : Tk) : Tk := ⟨1, t.name, t.attrs, ⟨#[]⟩⟩
def clT (t : Tk) : Tk := ⟨2, t.name, [], ⟨#[]⟩⟩
def txT (t : Tk) : Tk := ⟨3, ⟨#[]⟩, [], t.text⟩

/-- The tokens of the node there and of all that it has. -/
def tokN (ts : List Tk) : Nat → Nat → List Tk
  | 0, _ => []
  | f + 1, k => if (nodeAt ts k).name.size = 0 then [txT (nodeAt ts k)] else opT (nodeAt ts k) :: ((kidsTo ts k (endN ts k)).flatMap (tokN ts f) ++ [clT (nodeAt ts k)])

theorem endN_stop {ts : List Tk} {k : Nat} (h : k < ts.length) : endN ts k = ts.length ∨ parI ts (endN ts k) < (k : Int) := by
  rcases Nat.lt_or_ge (endN ts k) ts.length with h' | h'
  · right
    by_cases q : parI ts (endN ts k) < (k : Int)
    · exact q
    · exfalso
      have hle := endN_le h
      have key : ∀ m, k + 1 + m ≤ ts.length → ((ts.drop (k + 1)).takeWhile fun t => decide ((k : Int) ≤ t.kind)).length = m → k + 1 + m < ts.length → parI ts (k + 1 + m) < (k : Int) := by
        intro m hm hl hlt
        have hsub := List.takeWhile_append_dropWhile (p := fun t : Tk => decide ((k : Int) ≤ t.kind)) (l := ts.drop (k + 1))
        have hd : m < (ts.drop (k + 1)).length := by rw [List.length_drop]; omega
        have e1 : (ts.drop (k + 1))[m] = ts[k + 1 + m] := List.getElem_drop ..
        have hne : ((ts.drop (k + 1)).dropWhile fun t => decide ((k : Int) ≤ t.kind)) ≠ [] := by
          intro e0
          have := congrArg List.length hsub
          rw [List.length_append, e0, hl, List.length_nil] at this
          omega
        have hhd := List.head_dropWhile_not (fun t : Tk => decide ((k : Int) ≤ t.kind)) hne
        have e2 : ((ts.drop (k + 1)).dropWhile fun t => decide ((k : Int) ≤ t.kind)).head hne = ts[k + 1 + m] := by
          rw [← e1, List.head_eq_getElem]
          have : (ts.drop (k + 1))[m]? = some (((ts.drop (k + 1)).dropWhile fun t => decide ((k : Int) ≤ t.kind))[0]'(List.length_pos_iff.2 hne)) := by
            conv => lhs; rw [← hsub]
            rw [List.getElem?_append_right (by omega), hl, Nat.sub_self, List.getElem?_eq_getElem (List.length_pos_iff.2 hne)]
          rw [List.getElem?_eq_getElem hd] at this
          exact (Option.some.inj this).symm
        rw [e2] at hhd
        rw [parI_at hlt]
        simpa using hhd
      exact q (key _ hle.2 rfl h')
  · left
    have := endN_le h
    omega

theorem endN_min {ts : List Tk} {k e : Nat} (hk : k < ts.length) (he : k < e) (hp : e < ts.length → parI ts e < (k : Int)) (hle : e ≤ ts.length) : endN ts k ≤ e := by
  rcases Nat.lt_or_ge e (endN ts k) with h | h
  · exfalso
    have h2 := endN_le hk
    have h3 := hp (by omega)
    have h4 : (k : Int) ≤ parI ts e := by
      have hm : e - (k + 1) < ((ts.drop (k + 1)).takeWhile fun t => decide ((k : Int) ≤ t.kind)).length := by unfold endN at h; omega
      have h5 := List.all_eq_true.1 (List.all_takeWhile (p := fun t : Tk => decide ((k : Int) ≤ t.kind)) (l := ts.drop (k + 1))) _ (List.getElem_mem hm)
      have e1 : ((ts.drop (k + 1)).takeWhile fun t => decide ((k : Int) ≤ t.kind))[e - (k + 1)] = (ts.drop (k + 1))[e - (k + 1)]'(by rw [List.length_drop]; omega) :=
        (List.takeWhile_prefix _).getElem hm
      rw [e1, List.getElem_drop] at h5
      have e2 : k + 1 + (e - (k + 1)) = e := by omega
      simp only [e2] at h5
      rw [parI_at (by omega)]
      simpa using h5
    omega
  · exact h

/-- Of a kid: it ends ahead of the next one, and within. -/
theorem kid_end {ts : List Tk} {k i : Nat} (hk : k < ts.length) (hi : k < i) (hie : i < endN ts k) : endN ts i ≤ endN ts k ∧ ∀ j, i < j → j < ts.length → parI ts j = (k : Int) → endN ts i ≤ j := by
  have hle := endN_le hk
  refine ⟨?_, fun j hj hjn hp => ?_⟩
  · rcases endN_stop hk with h | h
    · rw [h]
      exact (endN_le (by omega)).2
    · exact endN_min (by omega) hie (fun _ => by omega) hle.2
  · exact endN_min (by omega) hj (fun _ => by omega) (by omega)

theorem kids_len {ts : List Tk} {k : Nat} (L : Nat → Nat) (hk : k < ts.length) (hL : ∀ i, k < i → i < endN ts k → L i ≤ 2 * (endN ts i - i)) :
    ∀ e, k < e → e ≤ endN ts k → ∃ m, k + 1 ≤ m ∧ m ≤ endN ts k ∧ ((kidsTo ts k e).map L).sum ≤ 2 * (m - (k + 1)) ∧ ∀ j, e ≤ j → j < endN ts k → parI ts j = (k : Int) → m ≤ j := by
  have hle := endN_le hk
  intro e
  induction e with
  | zero => intro h; omega
  | succ e ih =>
    intro h1 h2
    by_cases he : e = k
    · subst he
      refine ⟨e + 1, Nat.le_refl _, h2, ?_, fun j hj _ _ => by omega⟩
      rw [kidsTo_first]
      simp
    · obtain ⟨m, m1, m2, m3, m4⟩ := ih (by omega) (by omega)
      rw [kidsTo_next (by omega)]
      by_cases q : parI ts e = (k : Int)
      · rw [if_pos q, List.map_append, List.sum_append]
        obtain ⟨q1, q2⟩ := kid_end hk (show k < e by omega) (by omega)
        have hm := m4 e (Nat.le_refl _) (by omega) q
        have hl := hL e (by omega) (by omega)
        have he2 := endN_le (ts := ts) (k := e) (by omega)
        refine ⟨endN ts e, by omega, q1, ?_, fun j hj hjn hp => q2 j (by omega) (by omega) hp⟩
        simp only [List.map_cons, List.map_nil, List.sum_cons, List.sum_nil]
        omega
      · rw [if_neg q, List.append_nil]
        exact ⟨m, m1, m2, m3, fun j hj hjn hp => m4 j (by omega) hjn hp⟩

theorem flatMap_len {α β : Type} (f : α → List β) (l : List α) : (l.flatMap f).length = (l.map fun x => (f x).length).sum := by
  rw [List.length_flatMap]

theorem tokN_len {ts : List Tk} : ∀ f k, k < ts.length → (tokN ts f k).length ≤ 2 * (endN ts k - k)
  | 0, k, h => by simp [tokN]
  | f + 1, k, h => by
    have hle := endN_le h
    unfold tokN
    split
    · simp; omega
    · obtain ⟨m, m1, m2, m3, _⟩ := kids_len (fun i => (tokN ts f i).length) h (fun i h1 h2 => tokN_len f i (by omega)) (endN ts k) hle.1 (Nat.le_refl _)
      simp only [List.length_cons, List.length_append, List.length_nil, flatMap_len]
      omega

theorem tokKids_len {ts : List Tk} (f : Nat) {k e : Nat} (h : k < ts.length) (h1 : k < e) (h2 : e ≤ endN ts k) : ((kidsTo ts k e).flatMap (tokN ts f)).length ≤ 2 * (endN ts k - (k + 1)) := by
  obtain ⟨m, m1, m2, m3, _⟩ := kids_len (fun i => (tokN ts f i).length) h (fun i h1 h2 => tokN_len f i (by have := endN_le h; omega)) e h1 h2
  rw [flatMap_len]
  omega

theorem tokN_sz {ts : List Tk} (hz : TksSz 1048576 ts) : ∀ f k, TksSz 1048576 (tokN ts f k)
  | 0, k => fun t ht => by simp [tokN] at ht
  | f + 1, k => by
    have hk : TkSz 1048576 (nodeAt ts k) := by
      by_cases h : k < ts.length
      · rw [nodeAt_at h]; exact hz _ (List.getElem_mem h)
      · unfold nodeAt
        rw [List.getElem?_eq_none (by omega)]
        exact ⟨Nat.zero_le _, Nat.zero_le _, fun x hx => absurd hx List.not_mem_nil, Nat.zero_le _⟩
    obtain ⟨z1, z2, z3, z4⟩ := hk
    intro t ht
    unfold tokN at ht
    split at ht
    · rw [List.mem_singleton] at ht
      subst ht
      exact ⟨Nat.zero_le _, Nat.zero_le _, fun x hx => absurd hx List.not_mem_nil, z4⟩
    · rcases List.mem_cons.1 ht with rfl | ht
      · exact ⟨z1, z2, z3, Nat.zero_le _⟩
      · rcases List.mem_append.1 ht with ht | ht
        · obtain ⟨i, _, hi⟩ := List.mem_flatMap.1 ht
          exact tokN_sz hz f i t hi
        · rw [List.mem_singleton] at ht
          subst ht
          exact ⟨z1, Nat.zero_le _, fun x hx => absurd hx List.not_mem_nil, Nat.zero_le _⟩

end Go.Proofs.Ytbiblabmhlgnoaa
