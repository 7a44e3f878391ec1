/- What the draw of a tree keeps to: who is open stands in the chain (plain mathematics). Contracts of the pile of open elements: down to. A row of tokens that grows, every list of it in a block of its own. -/
import Derived.Test.YtkcmagfbacmllaaM14
import Derived.Test.YtkcmagfbacmllaaM12
import Derived.Test.YtkcmagfbacmllaaM4
namespace Go.Proofs.Ytkcmagfbacmllaa
set_option linter.unusedVariables false

structure Grn (ts : List Tk) (at_ : Nat) : Prop where
  pos : 0 < ts.length
  p0 : parI ts 0 = -1
  up : ∀ j, j < ts.length → UpOk ts j
  mem : at_ ∈ chainF ts ts.length
  el : elN ts at_

theorem chain_app {ts u : List Tk} : ∀ i, i ≤ ts.length → chainF (ts ++ u) i = chainF ts i
  | 0, _ => rfl
  | i + 1, h => by
    show i :: (chainF (ts ++ u) i).dropWhile _ = i :: (chainF ts i).dropWhile _
    rw [chain_app i (by omega), par_app (by omega)]

theorem el_app {ts u : List Tk} {p : Nat} (h : elN ts p) : elN (ts ++ u) p := by
  obtain ⟨h1, h2⟩ := h
  refine ⟨by rw [List.length_append]; omega, ?_⟩
  rw [List.getElem_append_left h1]
  exact h2

theorem up_app {ts u : List Tk} {j : Nat} (hj : j < ts.length) (h : UpOk ts j) : UpOk (ts ++ u) j := by
  rcases h with h | ⟨p, h1, h2, h3⟩
  · exact .inl h
  · exact .inr ⟨p, by rw [chain_app j (by omega)]; exact h1, by rw [par_app hj]; exact h2, el_app h3⟩

theorem mem_dw {p : Nat} : ∀ {l : List Nat}, p ∈ l → p ∈ l.dropWhile (fun (j : Nat) => !decide ((j : Int) = (p : Int)))
  | [], h => absurd h List.not_mem_nil
  | x :: l, h => by
    by_cases e : x = p
    · subst e
      rw [List.dropWhile_cons_of_neg (by simp)]
      exact List.mem_cons_self
    · rw [List.dropWhile_cons_of_pos (by simp; omega)]
      rcases List.mem_cons.1 h with h' | h'
      · exact absurd h'.symm e
      · exact mem_dw h'

theorem Grn.lt {ts : List Tk} {at_ : Nat} (h : Grn ts at_) : at_ < ts.length := by
  obtain ⟨n, hn⟩ : ∃ n, ts.length = n + 1 := ⟨ts.length - 1, by have := h.pos; omega⟩
  have := (linked_all n (fun j hj => h.up j (by omega))).2 at_ (by rw [← hn]; exact h.mem)
  omega

theorem Grn.start {t : Tk} (hk : t.kind = -1) (hn : ¬ t.name.size = 0) : Grn [t] 0 :=
  ⟨Nat.zero_lt_one, hk, fun j hj => .inl (by simp at hj; omega), by show 0 ∈ [0]; simp, ⟨Nat.zero_lt_one, hn⟩⟩

theorem Grn.push {ts : List Tk} {at_ : Nat} (h : Grn ts at_) {t : Tk} (hk : t.kind = (at_ : Int)) : (∀ j, j < (ts ++ [t]).length → UpOk (ts ++ [t]) j) ∧ at_ ∈ chainF (ts ++ [t]) (ts ++ [t]).length ∧ ts.length ∈ chainF (ts ++ [t]) (ts ++ [t]).length ∧ parI (ts ++ [t]) 0 = -1 := by
  have hpt : parI (ts ++ [t]) ts.length = (at_ : Int) := by unfold parI; simp [hk]
  have hl : (ts ++ [t]).length = ts.length + 1 := by simp
  have hc : chainF (ts ++ [t]) (ts.length + 1) = ts.length :: (chainF ts ts.length).dropWhile (fun (j : Nat) => !decide ((j : Int) = (at_ : Int))) := by
    show ts.length :: (chainF (ts ++ [t]) ts.length).dropWhile _ = _
    rw [chain_app _ (Nat.le_refl _), hpt]
  refine ⟨fun j hj => ?_, ?_, ?_, by rw [par_app h.pos]; exact h.p0⟩
  · rcases Nat.lt_or_ge j ts.length with h' | h'
    · exact up_app h' (h.up j h')
    · have : j = ts.length := by omega
      subst this
      exact .inr ⟨at_, by rw [chain_app _ (Nat.le_refl _)]; exact h.mem, hpt.symm, el_app h.el⟩
  · rw [hl, hc]
    exact List.mem_cons_of_mem _ (mem_dw h.mem)
  · rw [hl, hc]
    exact List.mem_cons_self

theorem Grn.keep {ts : List Tk} {at_ : Nat} (h : Grn ts at_) {t : Tk} (hk : t.kind = (at_ : Int)) : Grn (ts ++ [t]) at_ := by
  obtain ⟨h1, h2, _, h4⟩ := h.push hk
  exact ⟨by simp, h4, h1, h2, el_app h.el⟩

theorem Grn.into {ts : List Tk} {at_ : Nat} (h : Grn ts at_) {t : Tk} (hk : t.kind = (at_ : Int)) (hn : ¬ t.name.size = 0) : Grn (ts ++ [t]) ts.length := by
  obtain ⟨h1, _, h3, h4⟩ := h.push hk
  exact ⟨by simp, h4, h1, h3, ⟨by simp, by simpa using hn⟩⟩

theorem par_mem {ts : List Tk} (h0 : parI ts 0 = -1) : ∀ {c : List Nat}, Linked ts c → ∀ x, x ∈ c → 0 ≤ parI ts x → (parI ts x).toNat ∈ c
  | [], h, x, hx, _ => absurd hx List.not_mem_nil
  | [y], h, x, hx, hp => by
    rw [List.mem_singleton] at hx
    have : y = 0 := h
    subst hx
    subst this
    omega
  | y :: z :: r, h, x, hx, hp => by
    rcases List.mem_cons.1 hx with rfl | hx
    · rw [h.1, Int.toNat_natCast]
      exact List.mem_cons_of_mem _ List.mem_cons_self
    · exact List.mem_cons_of_mem _ (par_mem h0 h.tail x hx hp)

theorem Grn.outer {ts : List Tk} {at_ : Nat} (h : Grn ts at_) (hp : 0 ≤ parI ts at_) : Grn ts (parI ts at_).toNat := by
  obtain ⟨n, hn⟩ : ∃ n, ts.length = n + 1 := ⟨ts.length - 1, by have := h.pos; omega⟩
  have hl := (linked_all n (fun j hj => h.up j (by omega))).1
  rw [← hn] at hl
  refine ⟨h.pos, h.p0, h.up, par_mem h.p0 hl at_ h.mem hp, ?_⟩
  rcases h.up at_ h.lt with h' | ⟨p, _, e, he⟩
  · rw [h', h.p0] at hp
    omega
  · rw [← e, Int.toNat_natCast]
    exact he

end Go.Proofs.Ytkcmagfbacmllaa

namespace Go.Proofs.Ytkcmagfbacmllaa
open Go.RowKit
set_option linter.unusedVariables false
set_option linter.unusedSimpArgs false

theorem takeWhile_at {α : Type} {p : α → Bool} : ∀ {l : List α} {i : Nat}, i ≤ l.length → (∀ x ∈ l.take i, p x = true) → (∀ h : i < l.length, p l[i] = false) → l.takeWhile p = l.take i
  | [], i, _, _, _ => by simp
  | x :: l, 0, _, _, h => by
    have := h (by simp)
    simp only [List.getElem_cons_zero] at this
    rw [List.takeWhile_cons, this]
    rfl
  | x :: l, i + 1, hi, h1, h2 => by
    rw [List.takeWhile_cons, h1 x (by simp), List.take_succ_cons]
    simp only [if_true]
    rw [takeWhile_at (by simpa using hi) (fun y hy => h1 y (by simp [hy])) (fun h => by have := h2 (by simpa using h); simpa using this)]

def topE : List (Nat × ByteArray) → Nat × ByteArray
  | [] => (0, ⟨#[]⟩)
  | x :: _ => x

theorem cPeTopA (B g o : Nat) (cur : Array Value) (T : TypeId) (v : Value) (L : List (Nat × ByteArray)) (w : World) (h : PileE w B g o cur T v L) (hn : L.length ≤ 1000) :
    Calls Try.prog 96 #[.pointer (some ⟨g, o, none⟩)] w fun e w' => e = .returned (.tuple #[.agg #[.int .i64 ((topE L).1 : Int), .string (topE L).2], .bool (decide (0 < L.length))]) ∧ Below w.heap.size w w' := by
  cases L with
  | nil => exact cPeTop0 B g o cur T v w h
  | cons x L =>
    rw [show decide (0 < (x :: L).length) = true from decide_eq_true (Nat.succ_pos _)]
    exact cPeTop B g o cur T v x L w h (by rw [List.length_cons] at hn; omega)

/-- What downTo knows. -/
structure DownE (w : World) (B g o : Nat) (cur : Array Value) (T : TypeId) (v0 : Value) (L : List (Nat × ByteArray)) (kp : Nat × ByteArray → Bool) (i : Nat) (wr : World) (v : Value) (b6 : Nat) : Prop where
  no : ∀ x ∈ L.take i, (!kp x) = true
  pile : ∃ cur' v', PileE wr B g o cur' T v' (L.drop i) ∧ SameBut o cur cur' ∧ v'.ownBlock = v0.ownBlock
  own : wr.ownsRow w.heap.size 94 2 v i (elC (L.take i))
  keep : KeepB (fun k => k = g) w wr
  box : wr.heap[b6]? = some (.cells #[.int .i64 ((topE (L.drop i)).1 : Int), .string (topE (L.drop i)).2] 94 (0, 0))
  bge : w.heap.size ≤ b6
  bne : v.ownBlock ≠ some b6

set_option maxRecDepth 8000 in
set_option maxHeartbeats 8000000 in
theorem cPeDown1 (B g o : Nat) (cur : Array Value) (T : TypeId) (v0 : Value) (L : List (Nat × ByteArray)) (kp : Nat × ByteArray → Bool) (b : Nat) (w : World) (h : PileE w B g o cur T v0 L) (hn : L.length ≤ 1000)
    (hC : ∀ (x : Nat × ByteArray) (wr : World), KeepB (fun k => k = g) w wr → Calls Try.prog 72 #[.agg #[.int .i64 (x.1 : Int), .string x.2], .pointer (some ⟨b, 0, none⟩)] wr fun e w' => e = .returned (.bool (kp x)) ∧ Below wr.heap.size wr w') :
    Calls Try.prog 71 #[.pointer (some ⟨g, o, none⟩), .func (.func 72) #[] #[.pointer (some ⟨b, 0, none⟩)]] w fun e w' => (∃ r, e = .returned r ∧ w'.ownsRow w.heap.size 94 2 r (L.takeWhile (fun x => !kp x)).length (elC (L.takeWhile (fun x => !kp x)))) ∧ (∃ cur' v', PileE w' B g o cur' T v' (L.dropWhile (fun x => !kp x)) ∧ SameBut o cur cur' ∧ v'.ownBlock = v0.ownBlock) ∧ KeepB (fun k => k = g) w w' := by
  obtain ⟨i0, hi, hz0, hz1, hz2⟩ := info_parts infoEl
  have HI := hid (And.intro hi (And.intro hz0 (And.intro hz1 hz2)))
  have HP := hid h
  have HC := hid hC
  have hgl := h.lt
  have C0 := hid (cPeTopA B g o cur T v0 L w h hn)
  clear hi hz0 hz1 hz2 h hC
  obtain ⟨n, hnn⟩ : ∃ n, L.length = n := ⟨_, rfl⟩
  have HN := hid hnn
  rw [hnn] at hn C0
  clear hnn
  have HT0 := hid (show topE (L.drop 0) = topE L from rfl)
  generalize topE L = t0 at *
  generalize hdd : decide (0 < n) = D0 at *
  have HD0 := hid hdd
  clear hdd
  go_enter Try.func71, Try.ntmps71
  go_wp2_with fail
  refine C0.out.mono ?_
  rintro e w1 ⟨rfl, hb1⟩
  have HB1 := hid hb1
  have HBA := hid (hb1.alloc hb1.size (.cells #[.int .i64 (t0.1 : Int), .string t0.2] 94))
  have M1 := hid (heap_alloc_new w1 (.cells #[.int .i64 (t0.1 : Int), .string t0.2] 94))
  clear hb1 C0
  go_wp2_with fail
  go_loopw [5, 6, 7] (fun v x y wr => ∃ i b6 : Nat, i ≤ n ∧ x = .pointer (some ⟨b6, 0, none⟩) ∧ Hid (y = .bool (decide (i < n))) ∧ Hid (DownE w B g o cur T v0 L kp i wr v b6)) (fun v _ _ _ => n - lenV v)
  case atStart => exact ⟨0, w1.heap.size, Nat.zero_le _, rfl, by rw [HD0.out]; exact rfl, ⟨fun x hx => absurd hx (by simp), ⟨cur, v0, HP.out.below HBA.out, SameBut.refl _ _, rfl⟩, World.ownsRow_nil _ _ _ _, KeepB.of_below _ HBA.out, by rw [HT0.out]; exact M1.out, HB1.out.size, fun e => by cases e⟩⟩
  case round =>
    clear HBA M1
    obtain ⟨i, b6, hin, rfl, HY, ST⟩ := hrel
    obtain ⟨cur1, v1, hp1, hs1, ho1⟩ := ST.out.pile
    have HP1 := hid hp1
    have HS1 := hid hs1
    have HO1 := hid ho1
    clear hp1 hs1 ho1 HD0 HT0
    have hy := HY.out
    clear HY
    by_cases hlt : i < n
    case neg =>
      rw [decide_eq_false hlt] at hy
      subst hy
      have HE := hid (show L.dropWhile (fun x => !kp x) = L.drop i from dropWhile_at ST.out.no (fun h => absurd h (by rw [HN.out]; exact hlt)))
      have HE2 := hid (show L.takeWhile (fun x => !kp x) = L.take i from takeWhile_at (by rw [HN.out]; exact hin) ST.out.no (fun h => absurd h (by rw [HN.out]; exact hlt)))
      have HLT := hid (show (L.take i).length = i by rw [List.length_take, HN.out]; omega)
      obtain ⟨a5, c5, rfl⟩ := own_len ST.out.own
      go_wp2_with fail
      go_ret
      exact ⟨⟨_, rfl, by rw [HE2.out, HLT.out]; exact ST.out.own⟩, ⟨cur1, v1, by rw [HE.out]; exact HP1.out, HS1.out, HO1.out⟩, ST.out.keep⟩
    have his : i < L.length := by rw [HN.out]; exact hlt
    have HDR := hid (List.drop_eq_getElem_cons his)
    obtain ⟨x, hxx⟩ : ∃ x, L[i] = x := ⟨_, rfl⟩
    have HXX := hid hxx
    rw [hxx] at HDR
    have HBX := hid ST.out.box
    rw [HDR.out] at HBX
    rw [decide_eq_true hlt] at hy
    have hx2 : topE (x :: L.drop (i + 1)) = x := rfl
    rw [hx2] at HBX
    subst hy
    clear hxx hx2
    obtain ⟨x1, x2⟩ := x
    simp only at HBX
    have HPX : Hid (PileE wr B g o cur1 T v1 ((x1, x2) :: L.drop (i + 1))) := by rw [← HDR.out]; exact HP1.out
    have hlen : (L.drop (i + 1)).length = n - (i + 1) := by rw [List.length_drop, HN.out]
    have C1 := hid (HC.out (x1, x2) wr ST.out.keep)
    simp only at C1
    obtain ⟨a5, c5, hv5⟩ := own_len ST.out.own
    obtain ⟨⟨m0, m1⟩, f0, f1⟩ := box2e HBX.out
    have hb6 := lt_of_heap HBX.out
    cases q : kp (x1, x2)
    case true =>
      have HE := hid (show L.dropWhile (fun x => !kp x) = L.drop i from dropWhile_at ST.out.no (fun h => by rw [HXX.out, q]; rfl))
      have HE2 := hid (show L.takeWhile (fun x => !kp x) = L.take i from takeWhile_at (by rw [HN.out]; exact hin) ST.out.no (fun h => by rw [HXX.out, q]; rfl))
      have HLT := hid (show (L.take i).length = i by rw [List.length_take, HN.out]; omega)
      rw [q] at C1
      clear q
      subst hv5
      go_wp2_with fail
      refine C1.out.mono ?_
      rintro e w2 ⟨rfl, hb2⟩
      have HB2 := hid hb2
      clear hb2
      go_wp2_with fail
      go_ret
      exact ⟨⟨_, rfl, by rw [HE2.out, HLT.out]; exact ownsRow_below ST.out.own HB2.out⟩, ⟨cur1, v1, by rw [HE.out]; exact HP1.out.below HB2.out, HS1.out, HO1.out⟩, ST.out.keep.below_of HB2.out⟩
    rw [q] at C1
    have HNO := hid (show ∀ y ∈ L.take (i + 1), (!kp y) = true from fun y hy => by
      rw [take_snocN his] at hy
      rcases List.mem_append.1 hy with h' | h'
      · exact ST.out.no y h'
      · rw [List.mem_singleton, HXX.out] at h'
        subst h'
        rw [q]
        rfl)
    have HTK := hid (show elC (L.take (i + 1)) = elC (L.take i) ++ [.int .i64 (x1 : Int), .string x2] by rw [take_snocN his, elC_app, HXX.out]; rfl)
    have hgb : ¬ b6 = g := by have := ST.out.bge; omega
    have HBN := hid ST.out.bne
    clear q HDR
    subst hv5
    go_wp2_with fail
    refine C1.out.mono ?_
    rintro e w2 ⟨rfl, hb2⟩
    have HOW2 := hid (ownsRow_below ST.out.own hb2)
    have HK2 := hid (ST.out.keep.below_of hb2)
    have HM2 := hid (blk_below HBX.out hb2)
    have CT := hid (cPeTake B g o cur1 T v1 (x1, x2) (L.drop (i + 1)) w2 (HPX.out.below hb2) (by rw [hlen]; omega))
    clear hb2 C1 m0 m1 f0 f1
    go_wp2_with fail
    refine CT.out.mono ?_
    rintro e w3 ⟨rfl, ⟨v3, hp3, ho3⟩, hk3⟩
    have HP3 := hid hp3
    have HK3 := hid (HK2.out.trans hk3)
    have HO3 := hid (ho3.trans HO1.out)
    have HM3 := hid ((hk3.block b6 (lt_of_heap HM2.out) hgb).trans HM2.out)
    have HOW := hid ((HOW2.out.kept (row := some g) ⟨hk3.os, hk3.tape, hk3.output, hk3.size, fun k h1 h2 => hk3.block k h1 (fun e => h2 (by rw [e]))⟩ (.inr (fun e => by have := (HOW2.out.lt g e).1; omega))).alloc (.cells #[.int .i64 (x1 : Int), .string x2] 94))
    have HP3A := hid (HP3.out.below ((Below.refl w3.heap.size w3).alloc (Nat.le_refl _) (.cells #[.int .i64 (x1 : Int), .string x2] 94)))
    have HM3A := hid (blk_alloc HM3.out (.cells #[.int .i64 (x1 : Int), .string x2] 94))
    have hsz := HK3.out.size
    obtain ⟨⟨m0, m1⟩, _⟩ := box2e HM3.out
    obtain ⟨hi, hz0, hz1, hz2⟩ := HI.out
    have HNE := hid (two_cells w3 (.int .i64 (x1 : Int)) (.string x2) 94)
    have HON := hid (show ∀ u ∈ [Value.int .i64 (x1 : Int), .string x2], u.oneCell' = true by
      intro u hu
      simp at hu
      rcases hu with rfl | rfl <;> rfl)
    clear hp3 hk3 ho3 CT
    go_wp2_with (at_builtin; refine wpList_append_own_at _ rfl _ _ 88 rfl w.heap.size 94 i0 (.agg #[.int .i64 0, .string ⟨#[]⟩]) 2 24 Try.underlying88 hi hz0 hz1 hz2 rfl (by decide) _ _ _ rfl HOW.out ⟨w3.heap.size, 0, none⟩ 1 1 [.int .i64 (x1 : Int), .string x2] rfl rfl ?c1 ?c2 ?c3 ?c4 ?c5 ?_)
    case c1 => exact HNE.out
    case c2 => exact HON.out
    case c3 => unfold maxLen; omega
    case c4 => omega
    case c5 => simp; omega
    intro v4 w4 hown' hgrow _ hv4'
    have HOW4 := hid (show w4.ownsRow w.heap.size 94 2 v4 (i + 1) (elC (L.take (i + 1))) by rw [HTK.out]; exact hown')
    have HK4 := hid (show KeepB (fun k => k = g) w w4 from ⟨hgrow.os.trans HK3.out.os, hgrow.tape.trans HK3.out.tape, hgrow.output.trans HK3.out.output, Nat.le_trans (by simp; omega) hgrow.size, fun k h1 h2 => by
      rw [hgrow.block k (by simp; omega) (fun e => by have := (HOW.out.lt k e.symm).1; omega), Below.heap_alloc _ _ _ (by omega)]
      exact HK3.out.block k h1 h2⟩)
    have HM4 := hid ((hgrow.block b6 (lt_of_heap HM3A.out) (fun e => HBN.out e.symm)).trans HM3A.out)
    have HP4 := hid (show PileE w4 B g o (cur1.setIfInBounds o v3) T v3 (L.drop (i + 1)) from ⟨HP3A.out.ge, (hgrow.block g HP3A.out.lt (fun e => by have := (HOW.out.lt g e.symm).1; omega)).trans HP3A.out.blk, HP3A.out.at_, HP3A.out.row.kept hgrow (by
      rcases h5 : v3.ownBlock with _ | k
      · exact .inl rfl
      · refine .inr (fun e => ?_)
        have h6 := (HOW.out.lt k e.symm).1
        rw [HO3.out] at h5
        have := (HP.out.row.lt k h5).2
        omega), HP3A.out.ne⟩)
    have HL4 := hid ((Below.refl w4.heap.size w4).alloc (Nat.le_refl _) (.cells #[.int .i64 (x1 : Int), .string x2] 94))
    have C5 := hid (cPeTopA B g o _ T v3 (L.drop (i + 1)) _ (HP4.out.below HL4.out) (by rw [hlen]; omega))
    have hl0 : decide (0 < (L.drop (i + 1)).length) = decide (i + 1 < n) := by rw [hlen]; by_cases h : i + 1 < n <;> simp <;> omega
    rw [hl0] at C5
    obtain ⟨a4, c4, hv4⟩ := own_len hown'
    have HVL := hid (fun k (e : v4.ownBlock = some k) => (HOW4.out.lt k e).2)
    generalize htt : topE (L.drop (i + 1)) = tt at C5
    generalize hdd : decide (i + 1 < n) = dd at C5
    have HTT := hid htt
    have HDD := hid hdd
    have MB := hid (heap_alloc_new w4 (.cells #[.int .i64 (x1 : Int), .string x2] 94))
    obtain ⟨⟨n0, n1⟩, _⟩ := box2e HM4.out
    have hsz4 := HK4.out.size
    subst hv4
    clear hown' hgrow htt hdd hl0 m0 m1 hv4'
    go_wp2_with fail
    refine C5.out.mono ?_
    rintro e w5 ⟨rfl, hb5⟩
    have HB5 := hid (bb HL4.out hb5)
    have HM5 := hid (blk_below MB.out hb5)
    obtain ⟨⟨p0, p1⟩, f0, f1⟩ := box2e HM5.out
    have hw5 : w4.heap.size < w5.heap.size := by have := hb5.size; simp at this; omega
    clear hb5
    go_wp2_with fail
    have HST := hid (((Below.refl w4.heap.size w5).setCell (p := ⟨w4.heap.size, 0, none⟩) (Nat.le_refl _) (.int .i64 (tt.1 : Int))).setCell (p := ⟨w4.heap.size, 1, none⟩) (Nat.le_refl _) (.string tt.2))
    have HBS := hid (HB5.out.trans HST.out)
    have HMS := hid (box_set2 (u := .int .i64 (tt.1 : Int)) (v := .string tt.2) HM5.out)
    go_roundw
    case rel => exact ⟨i + 1, w4.heap.size, by omega, rfl, by rw [HDD.out]; exact rfl, ⟨HNO.out, ⟨_, v3, HP4.out.below HBS.out, HS1.out.set _, HO3.out⟩, ownsRow_below HOW4.out HBS.out, HK4.out.below_of HBS.out, by rw [HTT.out]; exact HMS.out, hsz4, fun e => by have := HVL.out _ e; omega⟩⟩
    case measure => simp [lenV]; omega

set_option maxRecDepth 8000 in
set_option maxHeartbeats 8000000 in
theorem cPeDown2 (B g o : Nat) (cur : Array Value) (T : TypeId) (v0 : Value) (L : List (Nat × ByteArray)) (kp : Nat × ByteArray → Bool) (w : World) (h : PileE w B g o cur T v0 L) (hn : L.length ≤ 1000)
    (hC : ∀ (x : Nat × ByteArray) (wr : World), KeepB (fun k => k = g) w wr → Calls Try.prog 75 #[.agg #[.int .i64 (x.1 : Int), .string x.2]] wr fun e w' => e = .returned (.bool (kp x)) ∧ Below wr.heap.size wr w') :
    Calls Try.prog 71 #[.pointer (some ⟨g, o, none⟩), .func (.func 75) #[] #[]] w fun e w' => (∃ r, e = .returned r ∧ w'.ownsRow w.heap.size 94 2 r (L.takeWhile (fun x => !kp x)).length (elC (L.takeWhile (fun x => !kp x)))) ∧ (∃ cur' v', PileE w' B g o cur' T v' (L.dropWhile (fun x => !kp x)) ∧ SameBut o cur cur' ∧ v'.ownBlock = v0.ownBlock) ∧ KeepB (fun k => k = g) w w' := by
  obtain ⟨i0, hi, hz0, hz1, hz2⟩ := info_parts infoEl
  have HI := hid (And.intro hi (And.intro hz0 (And.intro hz1 hz2)))
  have HP := hid h
  have HC := hid hC
  have hgl := h.lt
  have C0 := hid (cPeTopA B g o cur T v0 L w h hn)
  clear hi hz0 hz1 hz2 h hC
  obtain ⟨n, hnn⟩ : ∃ n, L.length = n := ⟨_, rfl⟩
  have HN := hid hnn
  rw [hnn] at hn C0
  clear hnn
  have HT0 := hid (show topE (L.drop 0) = topE L from rfl)
  generalize topE L = t0 at *
  generalize hdd : decide (0 < n) = D0 at *
  have HD0 := hid hdd
  clear hdd
  go_enter Try.func71, Try.ntmps71
  go_wp2_with fail
  refine C0.out.mono ?_
  rintro e w1 ⟨rfl, hb1⟩
  have HB1 := hid hb1
  have HBA := hid (hb1.alloc hb1.size (.cells #[.int .i64 (t0.1 : Int), .string t0.2] 94))
  have M1 := hid (heap_alloc_new w1 (.cells #[.int .i64 (t0.1 : Int), .string t0.2] 94))
  clear hb1 C0
  go_wp2_with fail
  go_loopw [5, 6, 7] (fun v x y wr => ∃ i b6 : Nat, i ≤ n ∧ x = .pointer (some ⟨b6, 0, none⟩) ∧ Hid (y = .bool (decide (i < n))) ∧ Hid (DownE w B g o cur T v0 L kp i wr v b6)) (fun v _ _ _ => n - lenV v)
  case atStart => exact ⟨0, w1.heap.size, Nat.zero_le _, rfl, by rw [HD0.out]; exact rfl, ⟨fun x hx => absurd hx (by simp), ⟨cur, v0, HP.out.below HBA.out, SameBut.refl _ _, rfl⟩, World.ownsRow_nil _ _ _ _, KeepB.of_below _ HBA.out, by rw [HT0.out]; exact M1.out, HB1.out.size, fun e => by cases e⟩⟩
  case round =>
    clear HBA M1
    obtain ⟨i, b6, hin, rfl, HY, ST⟩ := hrel
    obtain ⟨cur1, v1, hp1, hs1, ho1⟩ := ST.out.pile
    have HP1 := hid hp1
    have HS1 := hid hs1
    have HO1 := hid ho1
    clear hp1 hs1 ho1 HD0 HT0
    have hy := HY.out
    clear HY
    by_cases hlt : i < n
    case neg =>
      rw [decide_eq_false hlt] at hy
      subst hy
      have HE := hid (show L.dropWhile (fun x => !kp x) = L.drop i from dropWhile_at ST.out.no (fun h => absurd h (by rw [HN.out]; exact hlt)))
      have HE2 := hid (show L.takeWhile (fun x => !kp x) = L.take i from takeWhile_at (by rw [HN.out]; exact hin) ST.out.no (fun h => absurd h (by rw [HN.out]; exact hlt)))
      have HLT := hid (show (L.take i).length = i by rw [List.length_take, HN.out]; omega)
      obtain ⟨a5, c5, rfl⟩ := own_len ST.out.own
      go_wp2_with fail
      go_ret
      exact ⟨⟨_, rfl, by rw [HE2.out, HLT.out]; exact ST.out.own⟩, ⟨cur1, v1, by rw [HE.out]; exact HP1.out, HS1.out, HO1.out⟩, ST.out.keep⟩
    have his : i < L.length := by rw [HN.out]; exact hlt
    have HDR := hid (List.drop_eq_getElem_cons his)
    obtain ⟨x, hxx⟩ : ∃ x, L[i] = x := ⟨_, rfl⟩
    have HXX := hid hxx
    rw [hxx] at HDR
    have HBX := hid ST.out.box
    rw [HDR.out] at HBX
    rw [decide_eq_true hlt] at hy
    have hx2 : topE (x :: L.drop (i + 1)) = x := rfl
    rw [hx2] at HBX
    subst hy
    clear hxx hx2
    obtain ⟨x1, x2⟩ := x
    simp only at HBX
    have HPX : Hid (PileE wr B g o cur1 T v1 ((x1, x2) :: L.drop (i + 1))) := by rw [← HDR.out]; exact HP1.out
    have hlen : (L.drop (i + 1)).length = n - (i + 1) := by rw [List.length_drop, HN.out]
    have C1 := hid (HC.out (x1, x2) wr ST.out.keep)
    simp only at C1
    obtain ⟨a5, c5, hv5⟩ := own_len ST.out.own
    obtain ⟨⟨m0, m1⟩, f0, f1⟩ := box2e HBX.out
    have hb6 := lt_of_heap HBX.out
    cases q : kp (x1, x2)
    case true =>
      have HE := hid (show L.dropWhile (fun x => !kp x) = L.drop i from dropWhile_at ST.out.no (fun h => by rw [HXX.out, q]; rfl))
      have HE2 := hid (show L.takeWhile (fun x => !kp x) = L.take i from takeWhile_at (by rw [HN.out]; exact hin) ST.out.no (fun h => by rw [HXX.out, q]; rfl))
      have HLT := hid (show (L.take i).length = i by rw [List.length_take, HN.out]; omega)
      rw [q] at C1
      clear q
      subst hv5
      go_wp2_with fail
      refine C1.out.mono ?_
      rintro e w2 ⟨rfl, hb2⟩
      have HB2 := hid hb2
      clear hb2
      go_wp2_with fail
      go_ret
      exact ⟨⟨_, rfl, by rw [HE2.out, HLT.out]; exact ownsRow_below ST.out.own HB2.out⟩, ⟨cur1, v1, by rw [HE.out]; exact HP1.out.below HB2.out, HS1.out, HO1.out⟩, ST.out.keep.below_of HB2.out⟩
    rw [q] at C1
    have HNO := hid (show ∀ y ∈ L.take (i + 1), (!kp y) = true from fun y hy => by
      rw [take_snocN his] at hy
      rcases List.mem_append.1 hy with h' | h'
      · exact ST.out.no y h'
      · rw [List.mem_singleton, HXX.out] at h'
        subst h'
        rw [q]
        rfl)
    have HTK := hid (show elC (L.take (i + 1)) = elC (L.take i) ++ [.int .i64 (x1 : Int), .string x2] by rw [take_snocN his, elC_app, HXX.out]; rfl)
    have hgb : ¬ b6 = g := by have := ST.out.bge; omega
    have HBN := hid ST.out.bne
    clear q HDR
    subst hv5
    go_wp2_with fail
    refine C1.out.mono ?_
    rintro e w2 ⟨rfl, hb2⟩
    have HOW2 := hid (ownsRow_below ST.out.own hb2)
    have HK2 := hid (ST.out.keep.below_of hb2)
    have HM2 := hid (blk_below HBX.out hb2)
    have CT := hid (cPeTake B g o cur1 T v1 (x1, x2) (L.drop (i + 1)) w2 (HPX.out.below hb2) (by rw [hlen]; omega))
    clear hb2 C1 m0 m1 f0 f1
    go_wp2_with fail
    refine CT.out.mono ?_
    rintro e w3 ⟨rfl, ⟨v3, hp3, ho3⟩, hk3⟩
    have HP3 := hid hp3
    have HK3 := hid (HK2.out.trans hk3)
    have HO3 := hid (ho3.trans HO1.out)
    have HM3 := hid ((hk3.block b6 (lt_of_heap HM2.out) hgb).trans HM2.out)
    have HOW := hid ((HOW2.out.kept (row := some g) ⟨hk3.os, hk3.tape, hk3.output, hk3.size, fun k h1 h2 => hk3.block k h1 (fun e => h2 (by rw [e]))⟩ (.inr (fun e => by have := (HOW2.out.lt g e).1; omega))).alloc (.cells #[.int .i64 (x1 : Int), .string x2] 94))
    have HP3A := hid (HP3.out.below ((Below.refl w3.heap.size w3).alloc (Nat.le_refl _) (.cells #[.int .i64 (x1 : Int), .string x2] 94)))
    have HM3A := hid (blk_alloc HM3.out (.cells #[.int .i64 (x1 : Int), .string x2] 94))
    have hsz := HK3.out.size
    obtain ⟨⟨m0, m1⟩, _⟩ := box2e HM3.out
    obtain ⟨hi, hz0, hz1, hz2⟩ := HI.out
    have HNE := hid (two_cells w3 (.int .i64 (x1 : Int)) (.string x2) 94)
    have HON := hid (show ∀ u ∈ [Value.int .i64 (x1 : Int), .string x2], u.oneCell' = true by
      intro u hu
      simp at hu
      rcases hu with rfl | rfl <;> rfl)
    clear hp3 hk3 ho3 CT
    go_wp2_with (at_builtin; refine wpList_append_own_at _ rfl _ _ 88 rfl w.heap.size 94 i0 (.agg #[.int .i64 0, .string ⟨#[]⟩]) 2 24 Try.underlying88 hi hz0 hz1 hz2 rfl (by decide) _ _ _ rfl HOW.out ⟨w3.heap.size, 0, none⟩ 1 1 [.int .i64 (x1 : Int), .string x2] rfl rfl ?c1 ?c2 ?c3 ?c4 ?c5 ?_)
    case c1 => exact HNE.out
    case c2 => exact HON.out
    case c3 => unfold maxLen; omega
    case c4 => omega
    case c5 => simp; omega
    intro v4 w4 hown' hgrow _ hv4'
    have HOW4 := hid (show w4.ownsRow w.heap.size 94 2 v4 (i + 1) (elC (L.take (i + 1))) by rw [HTK.out]; exact hown')
    have HK4 := hid (show KeepB (fun k => k = g) w w4 from ⟨hgrow.os.trans HK3.out.os, hgrow.tape.trans HK3.out.tape, hgrow.output.trans HK3.out.output, Nat.le_trans (by simp; omega) hgrow.size, fun k h1 h2 => by
      rw [hgrow.block k (by simp; omega) (fun e => by have := (HOW.out.lt k e.symm).1; omega), Below.heap_alloc _ _ _ (by omega)]
      exact HK3.out.block k h1 h2⟩)
    have HM4 := hid ((hgrow.block b6 (lt_of_heap HM3A.out) (fun e => HBN.out e.symm)).trans HM3A.out)
    have HP4 := hid (show PileE w4 B g o (cur1.setIfInBounds o v3) T v3 (L.drop (i + 1)) from ⟨HP3A.out.ge, (hgrow.block g HP3A.out.lt (fun e => by have := (HOW.out.lt g e.symm).1; omega)).trans HP3A.out.blk, HP3A.out.at_, HP3A.out.row.kept hgrow (by
      rcases h5 : v3.ownBlock with _ | k
      · exact .inl rfl
      · refine .inr (fun e => ?_)
        have h6 := (HOW.out.lt k e.symm).1
        rw [HO3.out] at h5
        have := (HP.out.row.lt k h5).2
        omega), HP3A.out.ne⟩)
    have HL4 := hid ((Below.refl w4.heap.size w4).alloc (Nat.le_refl _) (.cells #[.int .i64 (x1 : Int), .string x2] 94))
    have C5 := hid (cPeTopA B g o _ T v3 (L.drop (i + 1)) _ (HP4.out.below HL4.out) (by rw [hlen]; omega))
    have hl0 : decide (0 < (L.drop (i + 1)).length) = decide (i + 1 < n) := by rw [hlen]; by_cases h : i + 1 < n <;> simp <;> omega
    rw [hl0] at C5
    obtain ⟨a4, c4, hv4⟩ := own_len hown'
    have HVL := hid (fun k (e : v4.ownBlock = some k) => (HOW4.out.lt k e).2)
    generalize htt : topE (L.drop (i + 1)) = tt at C5
    generalize hdd : decide (i + 1 < n) = dd at C5
    have HTT := hid htt
    have HDD := hid hdd
    have MB := hid (heap_alloc_new w4 (.cells #[.int .i64 (x1 : Int), .string x2] 94))
    obtain ⟨⟨n0, n1⟩, _⟩ := box2e HM4.out
    have hsz4 := HK4.out.size
    subst hv4
    clear hown' hgrow htt hdd hl0 m0 m1 hv4'
    go_wp2_with fail
    refine C5.out.mono ?_
    rintro e w5 ⟨rfl, hb5⟩
    have HB5 := hid (bb HL4.out hb5)
    have HM5 := hid (blk_below MB.out hb5)
    obtain ⟨⟨p0, p1⟩, f0, f1⟩ := box2e HM5.out
    have hw5 : w4.heap.size < w5.heap.size := by have := hb5.size; simp at this; omega
    clear hb5
    go_wp2_with fail
    have HST := hid (((Below.refl w4.heap.size w5).setCell (p := ⟨w4.heap.size, 0, none⟩) (Nat.le_refl _) (.int .i64 (tt.1 : Int))).setCell (p := ⟨w4.heap.size, 1, none⟩) (Nat.le_refl _) (.string tt.2))
    have HBS := hid (HB5.out.trans HST.out)
    have HMS := hid (box_set2 (u := .int .i64 (tt.1 : Int)) (v := .string tt.2) HM5.out)
    go_roundw
    case rel => exact ⟨i + 1, w4.heap.size, by omega, rfl, by rw [HDD.out]; exact rfl, ⟨HNO.out, ⟨_, v3, HP4.out.below HBS.out, HS1.out.set _, HO3.out⟩, ownsRow_below HOW4.out HBS.out, HK4.out.below_of HBS.out, by rw [HTT.out]; exact HMS.out, hsz4, fun e => by have := HVL.out _ e; omega⟩⟩
    case measure => simp [lenV]; omega

end Go.Proofs.Ytkcmagfbacmllaa

namespace Go.Proofs.Ytkcmagfbacmllaa.Tn
open Go.RowKit
set_option linter.unusedVariables false
set_option linter.unusedSimpArgs false

theorem infoR : (Try.prog.info? 78).map (fun i => (i.zero, i.size, i.bytes)) = some (some (.agg #[.int .i64 0, .string ⟨#[]⟩, .slice none 0 0, .string ⟨#[]⟩]), 4, 64) := by kernel_rfl

/-- One of the row, and where its attrs lie. -/
structure E where
  t : Tk
  a : Option Addr
  cap : Nat

def c1 (e : E) : List Value := [.int .i64 e.t.kind, .string e.t.name, .slice e.a e.t.attrs.length e.cap, .string e.t.text]

def cs (es : List E) : List Value := es.flatMap c1

theorem cs_app (es fs : List E) : cs (es ++ fs) = cs es ++ cs fs := by unfold cs; rw [List.flatMap_append]

theorem cs_one (e : E) : cs [e] = c1 e := by simp [cs]

theorem cs_len (es : List E) : (cs es).length = es.length * 4 := by
  induction es with
  | nil => rfl
  | cons x es ih => show (cs es).length + 4 = _; rw [ih, List.length_cons]; omega

theorem cs_cell (es : List E) : ∀ u ∈ cs es, u.oneCell' = true := by
  intro u hu
  unfold cs at hu
  obtain ⟨e, _, he⟩ := List.mem_flatMap.1 hu
  simp [c1] at he
  rcases he with rfl | rfl | rfl | rfl <;> rfl

theorem cs_get (es : List E) (j : Nat) (h : j < es.length) : (cs es)[j * 4]? = some (.int .i64 es[j].t.kind) ∧ (cs es)[j * 4 + 1]? = some (.string es[j].t.name)
    ∧ (cs es)[j * 4 + 2]? = some (.slice es[j].a es[j].t.attrs.length es[j].cap) ∧ (cs es)[j * 4 + 3]? = some (.string es[j].t.text) := by
  induction es generalizing j with
  | nil => simp at h
  | cons x es ih =>
    have e : cs (x :: es) = .int .i64 x.t.kind :: .string x.t.name :: .slice x.a x.t.attrs.length x.cap :: .string x.t.text :: cs es := rfl
    rw [e]
    match j with
    | 0 => exact ⟨rfl, rfl, rfl, rfl⟩
    | j + 1 =>
      have := ih j (by simpa using h)
      rw [show (j + 1) * 4 = j * 4 + 1 + 1 + 1 + 1 by omega]
      exact this

/-- The lists of these two lie in two blocks. -/
def Apart (e f : E) : Prop := 0 < e.t.attrs.length → 0 < f.t.attrs.length → ∀ g o g' o', e.a = some ⟨g, o, none⟩ → f.a = some ⟨g', o', none⟩ → ¬ g = g'

/-- The row so far: from B on. -/
structure Row (w : World) (B : Nat) (v : Value) (es : List E) : Prop where
  own : w.ownsRow B 78 4 v es.length (cs es)
  ats : ∀ e ∈ es, OwnAts w B e.a e.t.attrs ∧ ∀ g o, 0 < e.t.attrs.length → e.a = some ⟨g, o, none⟩ → ¬ v.ownBlock = some g
  apart : es.Pairwise Apart

theorem Row.below {w w' : World} {B : Nat} {v : Value} {es : List E} (h : Row w B v es) (hb : Below w.heap.size w w') : Row w' B v es :=
  ⟨ownsRow_below h.own hb, fun e he => ⟨(h.ats e he).1.below hb, (h.ats e he).2⟩, h.apart⟩

theorem Row.mono {w : World} {B B' : Nat} {v : Value} {es : List E} (h : Row w B' v es) (hB : B ≤ B') : Row w B v es := by
  refine ⟨⟨h.own.1, ?_⟩, fun e he => ⟨fun hl => ?_, (h.ats e he).2⟩, h.apart⟩
  · rcases h.own.2 with h' | ⟨g, cap, cur, h1, h2, h3⟩
    · exact .inl h'
    · exact .inr ⟨g, cap, cur, h1, Nat.le_trans hB h2, h3⟩
  · obtain ⟨g, o, cu, e1, e2, e3⟩ := (h.ats e he).1 hl
    exact ⟨g, o, cu, e1, Nat.le_trans hB e2, e3⟩

theorem Row.start (w : World) (B g : Nat) (hB : B ≤ g) (hh : w.heap[g]? = some (.cells #[] 78 (0, 0))) : Row w B (.slice (some ⟨g, 0, none⟩) 0 0) [] :=
  ⟨⟨rfl, .inr ⟨g, 0, #[], rfl, hB, hh, Nat.le_refl _, Nat.zero_le _, rfl, rfl⟩⟩, fun e he => absurd he List.not_mem_nil, List.Pairwise.nil⟩

theorem Row.start0 (w : World) (B : Nat) : Row w B (.slice none 0 0) [] :=
  ⟨World.ownsRow_nil _ _ _ _, fun e he => absurd he List.not_mem_nil, List.Pairwise.nil⟩

/-- A row of one, made at once. -/
theorem Row.one {w : World} {B g : Nat} {e : E} (hB : B ≤ g) (hh : w.heap[g]? = some (.cells #[.int .i64 e.t.kind, .string e.t.name, .slice e.a e.t.attrs.length e.cap, .string e.t.text] 78 (0, 0))) (ha : OwnAts w B e.a e.t.attrs) (hne : ∀ g' o, 0 < e.t.attrs.length → e.a = some ⟨g', o, none⟩ → ¬ g' = g) :
    Row w B (.slice (some ⟨g, 0, none⟩) 1 1) [e] :=
  ⟨⟨rfl, .inr ⟨g, 1, _, rfl, hB, hh, Nat.le_refl _, by decide, rfl, rfl⟩⟩, fun x hx => by
    rw [List.mem_singleton] at hx
    subst hx
    exact ⟨ha, fun g' o hl e1 e2 => hne g' o hl e1 (by simp [Value.ownBlock] at e2; exact e2.symm)⟩, List.pairwise_singleton _ _⟩

theorem Row.slice {w : World} {B : Nat} {v : Value} {es : List E} (h : Row w B v es) : ∃ a c, v = .slice a es.length c := by
  rcases h.own.2 with ⟨rfl, h0⟩ | ⟨g, cap, _, rfl, _⟩
  · exact ⟨none, 0, by rw [h0]⟩
  · exact ⟨_, cap, rfl⟩

theorem Row.tkRow {w : World} {B : Nat} {v : Value} {es : List E} (h : Row w B v es) : ∃ a cap, v = .slice a es.length cap ∧ TkRow w a (es.map (·.t)) := by
  rcases h.own.2 with ⟨rfl, h0⟩ | ⟨g, cap, cur, rfl, hg, hh, hn, hc, hs, ht⟩
  · exact ⟨none, 0, by rw [h0], fun j hj => by rw [List.length_map] at hj; omega⟩
  · refine ⟨some ⟨g, 0, none⟩, cap, rfl, fun j hj => ?_⟩
    rw [List.length_map] at hj
    obtain ⟨k0, k1, k2, k3⟩ := cs_get es j hj
    have hx : ∀ k u, (cs es)[k]? = some u → w.cell? ⟨g, 0 + k, none⟩ = some u := by
      intro k u hk
      rw [Lib.cell_of_heap hh, Nat.zero_add, ← Array.getElem?_toList]
      rw [← ht, List.getElem?_take] at hk
      split at hk
      · exact hk
      · cases hk
    rw [List.getElem_map]
    exact ⟨g, 0, es[j].a, es[j].cap, rfl, lt_of_heap hh, hx _ _ k0, hx _ _ k1, hx _ _ k2, hx _ _ k3, (h.ats _ (List.getElem_mem hj)).1.atRow⟩

theorem Row.join {w w' : World} {B : Nat} {v v' : Value} {es fs : List E} (h : Row w B v es)
    (hf : ∀ e ∈ fs, OwnAts w B e.a e.t.attrs ∧ ∀ g o, 0 < e.t.attrs.length → e.a = some ⟨g, o, none⟩ → ¬ v.ownBlock = some g) (hp : fs.Pairwise Apart) (hx : ∀ e ∈ es, ∀ f ∈ fs, Apart e f)
    (ho : w'.ownsRow B 78 4 v' (es.length + fs.length) (cs es ++ cs fs)) (hgr : w.grownBy w' v.ownBlock) (hw : v'.ownBlock = v.ownBlock ∨ v'.ownBlock = some w.heap.size) : Row w' B v' (es ++ fs) := by
  have key : ∀ e : E, (OwnAts w B e.a e.t.attrs ∧ ∀ g o, 0 < e.t.attrs.length → e.a = some ⟨g, o, none⟩ → ¬ v.ownBlock = some g) → OwnAts w' B e.a e.t.attrs ∧ ∀ g o, 0 < e.t.attrs.length → e.a = some ⟨g, o, none⟩ → ¬ v'.ownBlock = some g := by
    rintro e ⟨h1, h2⟩
    refine ⟨fun hl => ?_, fun g o hl hg x => ?_⟩
    · obtain ⟨g, o, cu, e1, e2, e3, e4⟩ := h1 hl
      exact ⟨g, o, cu, e1, e2, (hgr.block g (lt_of_heap e3) (fun x => h2 g o hl e1 x.symm)).trans e3, e4⟩
    · rcases hw with hw | hw
      · exact h2 g o hl hg (hw.symm.trans x)
      · rw [hw] at x
        simp only [Option.some.injEq] at x
        obtain ⟨g2, o2, cu, e1, _, e3, _⟩ := h1 hl
        rw [hg] at e1
        cases e1
        have := lt_of_heap e3
        omega
  refine ⟨by rw [List.length_append, cs_app]; exact ho, fun e he => ?_, List.pairwise_append.2 ⟨h.apart, hp, hx⟩⟩
  rcases List.mem_append.1 he with h' | h'
  · exact key e (h.ats e h')
  · exact key e (hf e h')

/-- Of what was there and what is made later. -/
theorem Row.apart_later {w w2 : World} {B B2 : Nat} {v v2 : Value} {es fs : List E} (h : Row w B v es) (k : Row w2 B2 v2 fs) (hB : w.heap.size ≤ B2) : (∀ e ∈ es, ∀ f ∈ fs, Apart e f) ∧ ∀ f ∈ fs, ∀ g o, 0 < f.t.attrs.length → f.a = some ⟨g, o, none⟩ → ¬ v.ownBlock = some g := by
  refine ⟨fun e he f hf hl hl' g o g' o' e1 e2 x => ?_, fun f hf g o hl e1 x => ?_⟩
  · subst x
    obtain ⟨g1, o1, cu, a1, _, a3, _⟩ := (h.ats e he).1 hl
    obtain ⟨g2, o2, cu2, b1, b2, _⟩ := (k.ats f hf).1 hl'
    rw [e1] at a1
    rw [e2] at b1
    cases a1
    cases b1
    have := lt_of_heap a3
    omega
  · obtain ⟨g2, o2, cu2, b1, b2, _⟩ := (k.ats f hf).1 hl
    rw [e1] at b1
    cases b1
    have := (h.own.lt g x).2
    omega

theorem Row.cells {w : World} {B : Nat} {a : Option Addr} {n c : Nat} {es : List E} (h : Row w B (.slice a n c) es) (hne : ¬ es = []) : ∃ g, a = some ⟨g, 0, none⟩ ∧ n = es.length ∧ ∀ j u, (cs es)[j]? = some u → w.cell? ((⟨g, 0, none⟩ : Addr).add j) = some u := by
  rcases h.own.2 with ⟨_, h0⟩ | ⟨g, cap, cur, e, hg, hh, hn, hc, hs, ht⟩
  · exact absurd (List.eq_nil_of_length_eq_zero h0) hne
  · cases e
    refine ⟨g, rfl, rfl, fun j u hk => ?_⟩
    rw [add_plainW, Lib.cell_of_heap hh, Nat.zero_add, ← Array.getElem?_toList]
    rw [← ht, List.getElem?_take] at hk
    split at hk
    · exact hk
    · cases hk

/-- append of such a row. -/
theorem wpL_join (w : World) {ops : Array Oper} {rest : List Oper} {o : Oper} {a : Act} {Q : Exit → Act → World → Prop} (hgd : o.guard = none) (s x : Operand)
    (ho : o.op = .call { callee := .builtin .append, args := #[s, x], argTypes := #[45, 45] }) (base : Nat) (v : Value) (es fs : List E) (hs : a.eval s = v) (hown : Row w base v es)
    (g m c : Nat) (hx : a.eval x = .slice (some ⟨g, 0, none⟩) m c) (hm : m = fs.length) (hB : ∀ j u, (cs fs)[j]? = some u → w.cell? ((⟨g, 0, none⟩ : Addr).add j) = some u)
    (hf : ∀ e ∈ fs, OwnAts w base e.a e.t.attrs ∧ ∀ g o, 0 < e.t.attrs.length → e.a = some ⟨g, o, none⟩ → ¬ v.ownBlock = some g) (hp : fs.Pairwise Apart) (hap : ∀ e ∈ es, ∀ f ∈ fs, Apart e f) (hn : es.length + fs.length ≤ 2097152) (hb : base ≤ w.heap.size)
    (h : ∀ a' c' w', Row w' base (.slice a' (es ++ fs).length c') (es ++ fs) → Below base w w' → w.grownBy w' v.ownBlock → wpList Try.prog ops Q rest (a.put o.dst (.slice a' (es ++ fs).length c')) w') : wpList Try.prog ops Q (o :: rest) a w := by
  subst hm
  obtain ⟨i0, hi, hz0, hz1, hz2⟩ := info_parts infoR
  refine wpList_append_own_at w hgd s x 45 ho base 78 i0 _ 4 64 Try.underlying45 hi hz0 hz1 hz2 rfl (by decide) v es.length (cs es) hs hown.own ⟨g, 0, none⟩ fs.length c (cs fs) hx (cs_len fs) hB (cs_cell fs) (by unfold maxLen; omega) (by omega) hb ?_
  intro v' w' ho' hg' _ hw'
  have hr := hown.join hf hp hap ho' hg' hw'
  obtain ⟨a', c', hv'⟩ := hr.slice
  subst hv'
  exact h a' c' w' hr ((Below.refl base w).grown hg' hb (fun k e => (hown.own.lt k e).1)) hg'

/-- .. as one step of a region that draws. -/
theorem step_join {ops : Array Oper} {o : Oper} {a : Act} {w : World} {K : Act → World → Prop} {Q : Exit → Act → World → Prop} {F : Prop} (hgd : o.guard = none) (s x : Operand)
    (ho : o.op = .call { callee := .builtin .append, args := #[s, x], argTypes := #[45, 45] }) (base : Nat) (v : Value) (es fs : List E) (hs : a.eval s = v) (hown : Row w base v es)
    (g m c : Nat) (hx : a.eval x = .slice (some ⟨g, 0, none⟩) m c) (hm : m = fs.length) (hB : ∀ j u, (cs fs)[j]? = some u → w.cell? ((⟨g, 0, none⟩ : Addr).add j) = some u)
    (hf : ∀ e ∈ fs, OwnAts w base e.a e.t.attrs ∧ ∀ g o, 0 < e.t.attrs.length → e.a = some ⟨g, o, none⟩ → ¬ v.ownBlock = some g) (hp : fs.Pairwise Apart) (hap : ∀ e ∈ es, ∀ f ∈ fs, Apart e f) (hn : es.length + fs.length ≤ 2097152) (hb : base ≤ w.heap.size)
    (h : ∀ a' c' w', Row w' base (.slice a' (es ++ fs).length c') (es ++ fs) → Below base w w' → w.grownBy w' v.ownBlock → K (a.put o.dst (.slice a' (es ++ fs).length c')) w') :
    if Region.wanted o (yielded ops a.tmps) = true then Oper.wp Try.prog o a w K Q else F := by
  have hw : Region.wanted o (yielded ops a.tmps) = true := by simp [Region.wanted, hgd]
  rw [if_pos hw]
  subst hm
  obtain ⟨i0, hi, hz0, hz1, hz2⟩ := info_parts infoR
  obtain ⟨v', w', hr, ho', hg', _, hw'⟩ := run_append_own_at (P := Try.prog) w base 45 o.type 78 i0 _ 4 64 Try.underlying45 hi hz0 hz1 hz2 rfl (by decide) v es.length (cs es) hown.own ⟨g, 0, none⟩ fs.length c (cs fs) (cs_len fs) hB (cs_cell fs) (by unfold maxLen; omega) (by omega) hb
  have hrow := hown.join hf hp hap ho' hg' hw'
  obtain ⟨a', c', hv'⟩ := hrow.slice
  subst hv'
  unfold Oper.wp execOp
  simp only [ho, resolve, invoke, builtin, Sem.run_bind, Sem.run_pure, Result.andThen_ok, List.map_toArray, List.map_cons, List.map_nil, hs, hx, hr]
  exact h a' c' w' hrow ((Below.refl base w).grown hg' hb (fun k e => (hown.own.lt k e).1)) hg'

end Go.Proofs.Ytkcmagfbacmllaa.Tn
