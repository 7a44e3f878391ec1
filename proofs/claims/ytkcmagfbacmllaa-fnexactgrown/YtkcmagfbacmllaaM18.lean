/- Contracts of the pile of open elements: down to. Contracts of attrAt and ValueIn of the program. Contracts of attrsOk and TokenOk of the program. -/
import Derived.Test.YtkcmagfbacmllaaM17
import Derived.Test.YtkcmagfbacmllaaM1
import Derived.Test.YtkcmagfbacmllaaM5
import Derived.Test.YtkcmagfbacmllaaM7
namespace Go.Proofs.Ytkcmagfbacmllaa
open Go.RowKit
set_option linter.unusedVariables false
set_option linter.unusedSimpArgs false

theorem takeWhile_at {α : Type} {p : α → Bool} : ∀ {l : List α} {i : Nat}, i ≤ l.length → (∀ x ∈ l.take i, p x = true) → (∀ h : i < l.length, p l[i] = false) → l.takeWhile p = l.take i
  | [], i, _, _, _ => by simp
  | x :: l, 0, _, _, h => by
    have := h (by simp)
    simp only [List.getElem_cons_zero] at this
    rw [List.takeWhile_cons, this]
    rfl
  | x :: l, i + 1, hi, h1, h2 => by
    rw [List.takeWhile_cons, h1 x (by simp), List.take_succ_cons]
    simp only [if_true]
    rw [takeWhile_at (by simpa using hi) (fun y hy => h1 y (by simp [hy])) (fun h => by have := h2 (by simpa using h); simpa using this)]

def topE : List (Nat × ByteArray) → Nat × ByteArray
  | [] => (0, ⟨#[]⟩)
  | x :: _ => x

theorem cPeTopA (B g o : Nat) (cur : Array Value) (T : TypeId) (v : Value) (L : List (Nat × ByteArray)) (w : World) (h : PileE w B g o cur T v L) (hn : L.length ≤ 1000) :
    Calls Try.prog 96 #[.pointer (some ⟨g, o, none⟩)] w fun e w' => e = .returned (.tuple #[.agg #[.int .i64 ((topE L).1 : Int), .string (topE L).2], .bool (decide (0 < L.length))]) ∧ Below w.heap.size w w' := by
  cases L with
  | nil => exact cPeTop0 B g o cur T v w h
  | cons x L =>
    rw [show decide (0 < (x :: L).length) = true from decide_eq_true (Nat.succ_pos _)]
    exact cPeTop B g o cur T v x L w h (by rw [List.length_cons] at hn; omega)

/-- What downTo knows. -/
structure DownE (w : World) (B g o : Nat) (cur : Array Value) (T : TypeId) (v0 : Value) (L : List (Nat × ByteArray)) (kp : Nat × ByteArray → Bool) (i : Nat) (wr : World) (v : Value) (b6 : Nat) : Prop where
  no : ∀ x ∈ L.take i, (!kp x) = true
  pile : ∃ cur' v', PileE wr B g o cur' T v' (L.drop i) ∧ SameBut o cur cur' ∧ v'.ownBlock = v0.ownBlock
  own : wr.ownsRow w.heap.size 94 2 v i (elC (L.take i))
  keep : KeepB (fun k => k = g) w wr
  box : wr.heap[b6]? = some (.cells #[.int .i64 ((topE (L.drop i)).1 : Int), .string (topE (L.drop i)).2] 94 (0, 0))
  bge : w.heap.size ≤ b6
  bne : v.ownBlock ≠ some b6

set_option maxRecDepth 8000 in
set_option maxHeartbeats 8000000 in
theorem cPeDown1 (B g o : Nat) (cur : Array Value) (T : TypeId) (v0 : Value) (L : List (Nat × ByteArray)) (kp : Nat × ByteArray → Bool) (b : Nat) (w : World) (h : PileE w B g o cur T v0 L) (hn : L.length ≤ 1000)
    (hC : ∀ (x : Nat × ByteArray) (wr : World), KeepB (fun k => k = g) w wr → Calls Try.prog 72 #[.agg #[.int .i64 (x.1 : Int), .string x.2], .pointer (some ⟨b, 0, none⟩)] wr fun e w' => e = .returned (.bool (kp x)) ∧ Below wr.heap.size wr w') :
    Calls Try.prog 71 #[.pointer (some ⟨g, o, none⟩), .func (.func 72) #[] #[.pointer (some ⟨b, 0, none⟩)]] w fun e w' => (∃ r, e = .returned r ∧ w'.ownsRow w.heap.size 94 2 r (L.takeWhile (fun x => !kp x)).length (elC (L.takeWhile (fun x => !kp x)))) ∧ (∃ cur' v', PileE w' B g o cur' T v' (L.dropWhile (fun x => !kp x)) ∧ SameBut o cur cur' ∧ v'.ownBlock = v0.ownBlock) ∧ KeepB (fun k => k = g) w w' := by
  obtain ⟨i0, hi, hz0, hz1, hz2⟩ := info_parts infoEl
  have HI := hid (And.intro hi (And.intro hz0 (And.intro hz1 hz2)))
  have HP := hid h
  have HC := hid hC
  have hgl := h.lt
  have C0 := hid (cPeTopA B g o cur T v0 L w h hn)
  clear hi hz0 hz1 hz2 h hC
  obtain ⟨n, hnn⟩ : ∃ n, L.length = n := ⟨_, rfl⟩
  have HN := hid hnn
  rw [hnn] at hn C0
  clear hnn
  have HT0 := hid (show topE (L.drop 0) = topE L from rfl)
  generalize topE L = t0 at *
  generalize hdd : decide (0 < n) = D0 at *
  have HD0 := hid hdd
  clear hdd
  go_enter Try.func71, Try.ntmps71
  go_wp2_with fail
  refine C0.out.mono ?_
  rintro e w1 ⟨rfl, hb1⟩
  have HB1 := hid hb1
  have HBA := hid (hb1.alloc hb1.size (.cells #[.int .i64 (t0.1 : Int), .string t0.2] 94))
  have M1 := hid (heap_alloc_new w1 (.cells #[.int .i64 (t0.1 : Int), .string t0.2] 94))
  clear hb1 C0
  go_wp2_with fail
  go_loopw [5, 6, 7] (fun v x y wr => ∃ i b6 : Nat, i ≤ n ∧ x = .pointer (some ⟨b6, 0, none⟩) ∧ Hid (y = .bool (decide (i < n))) ∧ Hid (DownE w B g o cur T v0 L kp i wr v b6)) (fun v _ _ _ => n - lenV v)
  case atStart => exact ⟨0, w1.heap.size, Nat.zero_le _, rfl, by rw [HD0.out]; exact rfl, ⟨fun x hx => absurd hx (by simp), ⟨cur, v0, HP.out.below HBA.out, SameBut.refl _ _, rfl⟩, World.ownsRow_nil _ _ _ _, KeepB.of_below _ HBA.out, by rw [HT0.out]; exact M1.out, HB1.out.size, fun e => by cases e⟩⟩
  case round =>
    clear HBA M1
    obtain ⟨i, b6, hin, rfl, HY, ST⟩ := hrel
    obtain ⟨cur1, v1, hp1, hs1, ho1⟩ := ST.out.pile
    have HP1 := hid hp1
    have HS1 := hid hs1
    have HO1 := hid ho1
    clear hp1 hs1 ho1 HD0 HT0
    have hy := HY.out
    clear HY
    by_cases hlt : i < n
    case neg =>
      rw [decide_eq_false hlt] at hy
      subst hy
      have HE := hid (show L.dropWhile (fun x => !kp x) = L.drop i from dropWhile_at ST.out.no (fun h => absurd h (by rw [HN.out]; exact hlt)))
      have HE2 := hid (show L.takeWhile (fun x => !kp x) = L.take i from takeWhile_at (by rw [HN.out]; exact hin) ST.out.no (fun h => absurd h (by rw [HN.out]; exact hlt)))
      have HLT := hid (show (L.take i).length = i by rw [List.length_take, HN.out]; omega)
      obtain ⟨a5, c5, rfl⟩ := own_len ST.out.own
      go_wp2_with fail
      go_ret
      exact ⟨⟨_, rfl, by rw [HE2.out, HLT.out]; exact ST.out.own⟩, ⟨cur1, v1, by rw [HE.out]; exact HP1.out, HS1.out, HO1.out⟩, ST.out.keep⟩
    have his : i < L.length := by rw [HN.out]; exact hlt
    have HDR := hid (List.drop_eq_getElem_cons his)
    obtain ⟨x, hxx⟩ : ∃ x, L[i] = x := ⟨_, rfl⟩
    have HXX := hid hxx
    rw [hxx] at HDR
    have HBX := hid ST.out.box
    rw [HDR.out] at HBX
    rw [decide_eq_true hlt] at hy
    have hx2 : topE (x :: L.drop (i + 1)) = x := rfl
    rw [hx2] at HBX
    subst hy
    clear hxx hx2
    obtain ⟨x1, x2⟩ := x
    simp only at HBX
    have HPX : Hid (PileE wr B g o cur1 T v1 ((x1, x2) :: L.drop (i + 1))) := by rw [← HDR.out]; exact HP1.out
    have hlen : (L.drop (i + 1)).length = n - (i + 1) := by rw [List.length_drop, HN.out]
    have C1 := hid (HC.out (x1, x2) wr ST.out.keep)
    simp only at C1
    obtain ⟨a5, c5, hv5⟩ := own_len ST.out.own
    obtain ⟨⟨m0, m1⟩, f0, f1⟩ := box2e HBX.out
    have hb6 := lt_of_heap HBX.out
    cases q : kp (x1, x2)
    case true =>
      have HE := hid (show L.dropWhile (fun x => !kp x) = L.drop i from dropWhile_at ST.out.no (fun h => by rw [HXX.out, q]; rfl))
      have HE2 := hid (show L.takeWhile (fun x => !kp x) = L.take i from takeWhile_at (by rw [HN.out]; exact hin) ST.out.no (fun h => by rw [HXX.out, q]; rfl))
      have HLT := hid (show (L.take i).length = i by rw [List.length_take, HN.out]; omega)
      rw [q] at C1
      clear q
      subst hv5
      go_wp2_with fail
      refine C1.out.mono ?_
      rintro e w2 ⟨rfl, hb2⟩
      have HB2 := hid hb2
      clear hb2
      go_wp2_with fail
      go_ret
      exact ⟨⟨_, rfl, by rw [HE2.out, HLT.out]; exact ownsRow_below ST.out.own HB2.out⟩, ⟨cur1, v1, by rw [HE.out]; exact HP1.out.below HB2.out, HS1.out, HO1.out⟩, ST.out.keep.below_of HB2.out⟩
    rw [q] at C1
    have HNO := hid (show ∀ y ∈ L.take (i + 1), (!kp y) = true from fun y hy => by
      rw [take_snocN his] at hy
      rcases List.mem_append.1 hy with h' | h'
      · exact ST.out.no y h'
      · rw [List.mem_singleton, HXX.out] at h'
        subst h'
        rw [q]
        rfl)
    have HTK := hid (show elC (L.take (i + 1)) = elC (L.take i) ++ [.int .i64 (x1 : Int), .string x2] by rw [take_snocN his, elC_app, HXX.out]; rfl)
    have hgb : ¬ b6 = g := by have := ST.out.bge; omega
    have HBN := hid ST.out.bne
    clear q HDR
    subst hv5
    go_wp2_with fail
    refine C1.out.mono ?_
    rintro e w2 ⟨rfl, hb2⟩
    have HOW2 := hid (ownsRow_below ST.out.own hb2)
    have HK2 := hid (ST.out.keep.below_of hb2)
    have HM2 := hid (blk_below HBX.out hb2)
    have CT := hid (cPeTake B g o cur1 T v1 (x1, x2) (L.drop (i + 1)) w2 (HPX.out.below hb2) (by rw [hlen]; omega))
    clear hb2 C1 m0 m1 f0 f1
    go_wp2_with fail
    refine CT.out.mono ?_
    rintro e w3 ⟨rfl, ⟨v3, hp3, ho3⟩, hk3⟩
    have HP3 := hid hp3
    have HK3 := hid (HK2.out.trans hk3)
    have HO3 := hid (ho3.trans HO1.out)
    have HM3 := hid ((hk3.block b6 (lt_of_heap HM2.out) hgb).trans HM2.out)
    have HOW := hid ((HOW2.out.kept (row := some g) ⟨hk3.os, hk3.tape, hk3.output, hk3.size, fun k h1 h2 => hk3.block k h1 (fun e => h2 (by rw [e]))⟩ (.inr (fun e => by have := (HOW2.out.lt g e).1; omega))).alloc (.cells #[.int .i64 (x1 : Int), .string x2] 94))
    have HP3A := hid (HP3.out.below ((Below.refl w3.heap.size w3).alloc (Nat.le_refl _) (.cells #[.int .i64 (x1 : Int), .string x2] 94)))
    have HM3A := hid (blk_alloc HM3.out (.cells #[.int .i64 (x1 : Int), .string x2] 94))
    have hsz := HK3.out.size
    obtain ⟨⟨m0, m1⟩, _⟩ := box2e HM3.out
    obtain ⟨hi, hz0, hz1, hz2⟩ := HI.out
    have HNE := hid (two_cells w3 (.int .i64 (x1 : Int)) (.string x2) 94)
    have HON := hid (show ∀ u ∈ [Value.int .i64 (x1 : Int), .string x2], u.oneCell' = true by
      intro u hu
      simp at hu
      rcases hu with rfl | rfl <;> rfl)
    clear hp3 hk3 ho3 CT
    go_wp2_with (at_builtin; refine wpList_append_own_at _ rfl _ _ 88 rfl w.heap.size 94 i0 (.agg #[.int .i64 0, .string ⟨#[]⟩]) 2 24 Try.underlying88 hi hz0 hz1 hz2 rfl (by decide) _ _ _ rfl HOW.out ⟨w3.heap.size, 0, none⟩ 1 1 [.int .i64 (x1 : Int), .string x2] rfl rfl ?c1 ?c2 ?c3 ?c4 ?c5 ?_)
    case c1 => exact HNE.out
    case c2 => exact HON.out
    case c3 => unfold maxLen; omega
    case c4 => omega
    case c5 => simp; omega
    intro v4 w4 hown' hgrow _ hv4'
    have HOW4 := hid (show w4.ownsRow w.heap.size 94 2 v4 (i + 1) (elC (L.take (i + 1))) by rw [HTK.out]; exact hown')
    have HK4 := hid (show KeepB (fun k => k = g) w w4 from ⟨hgrow.os.trans HK3.out.os, hgrow.tape.trans HK3.out.tape, hgrow.output.trans HK3.out.output, Nat.le_trans (by simp; omega) hgrow.size, fun k h1 h2 => by
      rw [hgrow.block k (by simp; omega) (fun e => by have := (HOW.out.lt k e.symm).1; omega), Below.heap_alloc _ _ _ (by omega)]
      exact HK3.out.block k h1 h2⟩)
    have HM4 := hid ((hgrow.block b6 (lt_of_heap HM3A.out) (fun e => HBN.out e.symm)).trans HM3A.out)
    have HP4 := hid (show PileE w4 B g o (cur1.setIfInBounds o v3) T v3 (L.drop (i + 1)) from ⟨HP3A.out.ge, (hgrow.block g HP3A.out.lt (fun e => by have := (HOW.out.lt g e.symm).1; omega)).trans HP3A.out.blk, HP3A.out.at_, HP3A.out.row.kept hgrow (by
      rcases h5 : v3.ownBlock with _ | k
      · exact .inl rfl
      · refine .inr (fun e => ?_)
        have h6 := (HOW.out.lt k e.symm).1
        rw [HO3.out] at h5
        have := (HP.out.row.lt k h5).2
        omega), HP3A.out.ne⟩)
    have HL4 := hid ((Below.refl w4.heap.size w4).alloc (Nat.le_refl _) (.cells #[.int .i64 (x1 : Int), .string x2] 94))
    have C5 := hid (cPeTopA B g o _ T v3 (L.drop (i + 1)) _ (HP4.out.below HL4.out) (by rw [hlen]; omega))
    have hl0 : decide (0 < (L.drop (i + 1)).length) = decide (i + 1 < n) := by rw [hlen]; by_cases h : i + 1 < n <;> simp <;> omega
    rw [hl0] at C5
    obtain ⟨a4, c4, hv4⟩ := own_len hown'
    have HVL := hid (fun k (e : v4.ownBlock = some k) => (HOW4.out.lt k e).2)
    generalize htt : topE (L.drop (i + 1)) = tt at C5
    generalize hdd : decide (i + 1 < n) = dd at C5
    have HTT := hid htt
    have HDD := hid hdd
    have MB := hid (heap_alloc_new w4 (.cells #[.int .i64 (x1 : Int), .string x2] 94))
    obtain ⟨⟨n0, n1⟩, _⟩ := box2e HM4.out
    have hsz4 := HK4.out.size
    subst hv4
    clear hown' hgrow htt hdd hl0 m0 m1 hv4'
    go_wp2_with fail
    refine C5.out.mono ?_
    rintro e w5 ⟨rfl, hb5⟩
    have HB5 := hid (bb HL4.out hb5)
    have HM5 := hid (blk_below MB.out hb5)
    obtain ⟨⟨p0, p1⟩, f0, f1⟩ := box2e HM5.out
    have hw5 : w4.heap.size < w5.heap.size := by have := hb5.size; simp at this; omega
    clear hb5
    go_wp2_with fail
    have HST := hid (((Below.refl w4.heap.size w5).setCell (p := ⟨w4.heap.size, 0, none⟩) (Nat.le_refl _) (.int .i64 (tt.1 : Int))).setCell (p := ⟨w4.heap.size, 1, none⟩) (Nat.le_refl _) (.string tt.2))
    have HBS := hid (HB5.out.trans HST.out)
    have HMS := hid (box_set2 (u := .int .i64 (tt.1 : Int)) (v := .string tt.2) HM5.out)
    go_roundw
    case rel => exact ⟨i + 1, w4.heap.size, by omega, rfl, by rw [HDD.out]; exact rfl, ⟨HNO.out, ⟨_, v3, HP4.out.below HBS.out, HS1.out.set _, HO3.out⟩, ownsRow_below HOW4.out HBS.out, HK4.out.below_of HBS.out, by rw [HTT.out]; exact HMS.out, hsz4, fun e => by have := HVL.out _ e; omega⟩⟩
    case measure => simp [lenV]; omega

set_option maxRecDepth 8000 in
set_option maxHeartbeats 8000000 in
theorem cPeDown2 (B g o : Nat) (cur : Array Value) (T : TypeId) (v0 : Value) (L : List (Nat × ByteArray)) (kp : Nat × ByteArray → Bool) (w : World) (h : PileE w B g o cur T v0 L) (hn : L.length ≤ 1000)
    (hC : ∀ (x : Nat × ByteArray) (wr : World), KeepB (fun k => k = g) w wr → Calls Try.prog 75 #[.agg #[.int .i64 (x.1 : Int), .string x.2]] wr fun e w' => e = .returned (.bool (kp x)) ∧ Below wr.heap.size wr w') :
    Calls Try.prog 71 #[.pointer (some ⟨g, o, none⟩), .func (.func 75) #[] #[]] w fun e w' => (∃ r, e = .returned r ∧ w'.ownsRow w.heap.size 94 2 r (L.takeWhile (fun x => !kp x)).length (elC (L.takeWhile (fun x => !kp x)))) ∧ (∃ cur' v', PileE w' B g o cur' T v' (L.dropWhile (fun x => !kp x)) ∧ SameBut o cur cur' ∧ v'.ownBlock = v0.ownBlock) ∧ KeepB (fun k => k = g) w w' := by
  obtain ⟨i0, hi, hz0, hz1, hz2⟩ := info_parts infoEl
  have HI := hid (And.intro hi (And.intro hz0 (And.intro hz1 hz2)))
  have HP := hid h
  have HC := hid hC
  have hgl := h.lt
  have C0 := hid (cPeTopA B g o cur T v0 L w h hn)
  clear hi hz0 hz1 hz2 h hC
  obtain ⟨n, hnn⟩ : ∃ n, L.length = n := ⟨_, rfl⟩
  have HN := hid hnn
  rw [hnn] at hn C0
  clear hnn
  have HT0 := hid (show topE (L.drop 0) = topE L from rfl)
  generalize topE L = t0 at *
  generalize hdd : decide (0 < n) = D0 at *
  have HD0 := hid hdd
  clear hdd
  go_enter Try.func71, Try.ntmps71
  go_wp2_with fail
  refine C0.out.mono ?_
  rintro e w1 ⟨rfl, hb1⟩
  have HB1 := hid hb1
  have HBA := hid (hb1.alloc hb1.size (.cells #[.int .i64 (t0.1 : Int), .string t0.2] 94))
  have M1 := hid (heap_alloc_new w1 (.cells #[.int .i64 (t0.1 : Int), .string t0.2] 94))
  clear hb1 C0
  go_wp2_with fail
  go_loopw [5, 6, 7] (fun v x y wr => ∃ i b6 : Nat, i ≤ n ∧ x = .pointer (some ⟨b6, 0, none⟩) ∧ Hid (y = .bool (decide (i < n))) ∧ Hid (DownE w B g o cur T v0 L kp i wr v b6)) (fun v _ _ _ => n - lenV v)
  case atStart => exact ⟨0, w1.heap.size, Nat.zero_le _, rfl, by rw [HD0.out]; exact rfl, ⟨fun x hx => absurd hx (by simp), ⟨cur, v0, HP.out.below HBA.out, SameBut.refl _ _, rfl⟩, World.ownsRow_nil _ _ _ _, KeepB.of_below _ HBA.out, by rw [HT0.out]; exact M1.out, HB1.out.size, fun e => by cases e⟩⟩
  case round =>
    clear HBA M1
    obtain ⟨i, b6, hin, rfl, HY, ST⟩ := hrel
    obtain ⟨cur1, v1, hp1, hs1, ho1⟩ := ST.out.pile
    have HP1 := hid hp1
    have HS1 := hid hs1
    have HO1 := hid ho1
    clear hp1 hs1 ho1 HD0 HT0
    have hy := HY.out
    clear HY
    by_cases hlt : i < n
    case neg =>
      rw [decide_eq_false hlt] at hy
      subst hy
      have HE := hid (show L.dropWhile (fun x => !kp x) = L.drop i from dropWhile_at ST.out.no (fun h => absurd h (by rw [HN.out]; exact hlt)))
      have HE2 := hid (show L.takeWhile (fun x => !kp x) = L.take i from takeWhile_at (by rw [HN.out]; exact hin) ST.out.no (fun h => absurd h (by rw [HN.out]; exact hlt)))
      have HLT := hid (show (L.take i).length = i by rw [List.length_take, HN.out]; omega)
      obtain ⟨a5, c5, rfl⟩ := own_len ST.out.own
      go_wp2_with fail
      go_ret
      exact ⟨⟨_, rfl, by rw [HE2.out, HLT.out]; exact ST.out.own⟩, ⟨cur1, v1, by rw [HE.out]; exact HP1.out, HS1.out, HO1.out⟩, ST.out.keep⟩
    have his : i < L.length := by rw [HN.out]; exact hlt
    have HDR := hid (List.drop_eq_getElem_cons his)
    obtain ⟨x, hxx⟩ : ∃ x, L[i] = x := ⟨_, rfl⟩
    have HXX := hid hxx
    rw [hxx] at HDR
    have HBX := hid ST.out.box
    rw [HDR.out] at HBX
    rw [decide_eq_true hlt] at hy
    have hx2 : topE (x :: L.drop (i + 1)) = x := rfl
    rw [hx2] at HBX
    subst hy
    clear hxx hx2
    obtain ⟨x1, x2⟩ := x
    simp only at HBX
    have HPX : Hid (PileE wr B g o cur1 T v1 ((x1, x2) :: L.drop (i + 1))) := by rw [← HDR.out]; exact HP1.out
    have hlen : (L.drop (i + 1)).length = n - (i + 1) := by rw [List.length_drop, HN.out]
    have C1 := hid (HC.out (x1, x2) wr ST.out.keep)
    simp only at C1
    obtain ⟨a5, c5, hv5⟩ := own_len ST.out.own
    obtain ⟨⟨m0, m1⟩, f0, f1⟩ := box2e HBX.out
    have hb6 := lt_of_heap HBX.out
    cases q : kp (x1, x2)
    case true =>
      have HE := hid (show L.dropWhile (fun x => !kp x) = L.drop i from dropWhile_at ST.out.no (fun h => by rw [HXX.out, q]; rfl))
      have HE2 := hid (show L.takeWhile (fun x => !kp x) = L.take i from takeWhile_at (by rw [HN.out]; exact hin) ST.out.no (fun h => by rw [HXX.out, q]; rfl))
      have HLT := hid (show (L.take i).length = i by rw [List.length_take, HN.out]; omega)
      rw [q] at C1
      clear q
      subst hv5
      go_wp2_with fail
      refine C1.out.mono ?_
      rintro e w2 ⟨rfl, hb2⟩
      have HB2 := hid hb2
      clear hb2
      go_wp2_with fail
      go_ret
      exact ⟨⟨_, rfl, by rw [HE2.out, HLT.out]; exact ownsRow_below ST.out.own HB2.out⟩, ⟨cur1, v1, by rw [HE.out]; exact HP1.out.below HB2.out, HS1.out, HO1.out⟩, ST.out.keep.below_of HB2.out⟩
    rw [q] at C1
    have HNO := hid (show ∀ y ∈ L.take (i + 1), (!kp y) = true from fun y hy => by
      rw [take_snocN his] at hy
      rcases List.mem_append.1 hy with h' | h'
      · exact ST.out.no y h'
      · rw [List.mem_singleton, HXX.out] at h'
        subst h'
        rw [q]
        rfl)
    have HTK := hid (show elC (L.take (i + 1)) = elC (L.take i) ++ [.int .i64 (x1 : Int), .string x2] by rw [take_snocN his, elC_app, HXX.out]; rfl)
    have hgb : ¬ b6 = g := by have := ST.out.bge; omega
    have HBN := hid ST.out.bne
    clear q HDR
    subst hv5
    go_wp2_with fail
    refine C1.out.mono ?_
    rintro e w2 ⟨rfl, hb2⟩
    have HOW2 := hid (ownsRow_below ST.out.own hb2)
    have HK2 := hid (ST.out.keep.below_of hb2)
    have HM2 := hid (blk_below HBX.out hb2)
    have CT := hid (cPeTake B g o cur1 T v1 (x1, x2) (L.drop (i + 1)) w2 (HPX.out.below hb2) (by rw [hlen]; omega))
    clear hb2 C1 m0 m1 f0 f1
    go_wp2_with fail
    refine CT.out.mono ?_
    rintro e w3 ⟨rfl, ⟨v3, hp3, ho3⟩, hk3⟩
    have HP3 := hid hp3
    have HK3 := hid (HK2.out.trans hk3)
    have HO3 := hid (ho3.trans HO1.out)
    have HM3 := hid ((hk3.block b6 (lt_of_heap HM2.out) hgb).trans HM2.out)
    have HOW := hid ((HOW2.out.kept (row := some g) ⟨hk3.os, hk3.tape, hk3.output, hk3.size, fun k h1 h2 => hk3.block k h1 (fun e => h2 (by rw [e]))⟩ (.inr (fun e => by have := (HOW2.out.lt g e).1; omega))).alloc (.cells #[.int .i64 (x1 : Int), .string x2] 94))
    have HP3A := hid (HP3.out.below ((Below.refl w3.heap.size w3).alloc (Nat.le_refl _) (.cells #[.int .i64 (x1 : Int), .string x2] 94)))
    have HM3A := hid (blk_alloc HM3.out (.cells #[.int .i64 (x1 : Int), .string x2] 94))
    have hsz := HK3.out.size
    obtain ⟨⟨m0, m1⟩, _⟩ := box2e HM3.out
    obtain ⟨hi, hz0, hz1, hz2⟩ := HI.out
    have HNE := hid (two_cells w3 (.int .i64 (x1 : Int)) (.string x2) 94)
    have HON := hid (show ∀ u ∈ [Value.int .i64 (x1 : Int), .string x2], u.oneCell' = true by
      intro u hu
      simp at hu
      rcases hu with rfl | rfl <;> rfl)
    clear hp3 hk3 ho3 CT
    go_wp2_with (at_builtin; refine wpList_append_own_at _ rfl _ _ 88 rfl w.heap.size 94 i0 (.agg #[.int .i64 0, .string ⟨#[]⟩]) 2 24 Try.underlying88 hi hz0 hz1 hz2 rfl (by decide) _ _ _ rfl HOW.out ⟨w3.heap.size, 0, none⟩ 1 1 [.int .i64 (x1 : Int), .string x2] rfl rfl ?c1 ?c2 ?c3 ?c4 ?c5 ?_)
    case c1 => exact HNE.out
    case c2 => exact HON.out
    case c3 => unfold maxLen; omega
    case c4 => omega
    case c5 => simp; omega
    intro v4 w4 hown' hgrow _ hv4'
    have HOW4 := hid (show w4.ownsRow w.heap.size 94 2 v4 (i + 1) (elC (L.take (i + 1))) by rw [HTK.out]; exact hown')
    have HK4 := hid (show KeepB (fun k => k = g) w w4 from ⟨hgrow.os.trans HK3.out.os, hgrow.tape.trans HK3.out.tape, hgrow.output.trans HK3.out.output, Nat.le_trans (by simp; omega) hgrow.size, fun k h1 h2 => by
      rw [hgrow.block k (by simp; omega) (fun e => by have := (HOW.out.lt k e.symm).1; omega), Below.heap_alloc _ _ _ (by omega)]
      exact HK3.out.block k h1 h2⟩)
    have HM4 := hid ((hgrow.block b6 (lt_of_heap HM3A.out) (fun e => HBN.out e.symm)).trans HM3A.out)
    have HP4 := hid (show PileE w4 B g o (cur1.setIfInBounds o v3) T v3 (L.drop (i + 1)) from ⟨HP3A.out.ge, (hgrow.block g HP3A.out.lt (fun e => by have := (HOW.out.lt g e.symm).1; omega)).trans HP3A.out.blk, HP3A.out.at_, HP3A.out.row.kept hgrow (by
      rcases h5 : v3.ownBlock with _ | k
      · exact .inl rfl
      · refine .inr (fun e => ?_)
        have h6 := (HOW.out.lt k e.symm).1
        rw [HO3.out] at h5
        have := (HP.out.row.lt k h5).2
        omega), HP3A.out.ne⟩)
    have HL4 := hid ((Below.refl w4.heap.size w4).alloc (Nat.le_refl _) (.cells #[.int .i64 (x1 : Int), .string x2] 94))
    have C5 := hid (cPeTopA B g o _ T v3 (L.drop (i + 1)) _ (HP4.out.below HL4.out) (by rw [hlen]; omega))
    have hl0 : decide (0 < (L.drop (i + 1)).length) = decide (i + 1 < n) := by rw [hlen]; by_cases h : i + 1 < n <;> simp <;> omega
    rw [hl0] at C5
    obtain ⟨a4, c4, hv4⟩ := own_len hown'
    have HVL := hid (fun k (e : v4.ownBlock = some k) => (HOW4.out.lt k e).2)
    generalize htt : topE (L.drop (i + 1)) = tt at C5
    generalize hdd : decide (i + 1 < n) = dd at C5
    have HTT := hid htt
    have HDD := hid hdd
    have MB := hid (heap_alloc_new w4 (.cells #[.int .i64 (x1 : Int), .string x2] 94))
    obtain ⟨⟨n0, n1⟩, _⟩ := box2e HM4.out
    have hsz4 := HK4.out.size
    subst hv4
    clear hown' hgrow htt hdd hl0 m0 m1 hv4'
    go_wp2_with fail
    refine C5.out.mono ?_
    rintro e w5 ⟨rfl, hb5⟩
    have HB5 := hid (bb HL4.out hb5)
    have HM5 := hid (blk_below MB.out hb5)
    obtain ⟨⟨p0, p1⟩, f0, f1⟩ := box2e HM5.out
    have hw5 : w4.heap.size < w5.heap.size := by have := hb5.size; simp at this; omega
    clear hb5
    go_wp2_with fail
    have HST := hid (((Below.refl w4.heap.size w5).setCell (p := ⟨w4.heap.size, 0, none⟩) (Nat.le_refl _) (.int .i64 (tt.1 : Int))).setCell (p := ⟨w4.heap.size, 1, none⟩) (Nat.le_refl _) (.string tt.2))
    have HBS := hid (HB5.out.trans HST.out)
    have HMS := hid (box_set2 (u := .int .i64 (tt.1 : Int)) (v := .string tt.2) HM5.out)
    go_roundw
    case rel => exact ⟨i + 1, w4.heap.size, by omega, rfl, by rw [HDD.out]; exact rfl, ⟨HNO.out, ⟨_, v3, HP4.out.below HBS.out, HS1.out.set _, HO3.out⟩, ownsRow_below HOW4.out HBS.out, HK4.out.below_of HBS.out, by rw [HTT.out]; exact HMS.out, hsz4, fun e => by have := HVL.out _ e; omega⟩⟩
    case measure => simp [lenV]; omega

end Go.Proofs.Ytkcmagfbacmllaa

namespace Go.Proofs.Ytkcmagfbacmllaa
open Go.RowKit
set_option linter.unusedVariables false
set_option linter.unusedSimpArgs false

/-- Where the first with this name stands, or -1. -/
def IdxIs (l : List At) (name : ByteArray) (r : Int) : Prop :=
  (r = -1 ∧ ∀ x ∈ l, ¬ x.name = name) ∨ ∃ i : Nat, ∃ h : i < l.length, r = (i : Int) ∧ l[i].name = name ∧ ∀ x ∈ l.take i, ¬ x.name = name

theorem cell_alloc {w : World} {p : Addr} {v : Value} (h : w.cell? p = some v) (hp : p.block < w.heap.size) (o : Obj) : (w.alloc o).cell? p = some v :=
  (((Below.refl w.heap.size w).alloc (Nat.le_refl _) o).cell hp).trans h

set_option maxHeartbeats 1000000 in
theorem cAttrAt1 (n v name : ByteArray) (b o : Nat) (w : World) (hp : b < w.heap.size) (hc : w.cell? ⟨b, o, none⟩ = some (.string name)) (hn : n.size ≤ 1048576) (hm : name.size ≤ 1048576) :
    Calls Try.prog 134 #[.agg #[.string n, .string v], .pointer (some ⟨b, o, none⟩)] w fun e w' => e = .returned (.bool (decide (n = name))) ∧ Below w.heap.size w w' := by
  have HB0 := hid ((Below.refl w.heap.size w).alloc (Nat.le_refl _) (.cells #[.string n, .string v] 115))
  have c1 := cell_alloc hc hp (.cells #[.string n, .string v] 115)
  have hd := str_beq n name
  generalize decide (n = name) = D at hd ⊢
  clear hc
  go_enter Try.func134, Try.ntmps134
  go_wp2
  go_ret
  exact ⟨rfl, HB0.out⟩

set_option maxHeartbeats 1000000 in
theorem cIndexFunc (a : Option Addr) (cap : Nat) (l : List At) (name : ByteArray) (b0 o0 : Nat) (w : World) (hR : AtRow w a l) (hz : AtSz 1048576 l) (hn : l.length ≤ 1048576) (hm : name.size ≤ 1048576)
    (hp : b0 < w.heap.size) (hc : w.cell? ⟨b0, o0, none⟩ = some (.string name)) :
    Calls Try.prog 133 #[.slice a l.length cap, .func (.func 134) #[] #[.pointer (some ⟨b0, o0, none⟩)]] w fun e w' => ∃ r : Int, e = .returned (.int .i64 r) ∧ IdxIs l name r ∧ Below w.heap.size w w' := by
  have HR := hid hR
  have HZ := hid hz
  have HC := hid hc
  have HP := hid hp
  clear hR hz hc hp
  obtain ⟨n, hnn⟩ : ∃ n, l.length = n := ⟨_, rfl⟩
  have HN := hid hnn
  rw [hnn] at hn ⊢
  clear hnn
  go_enter Try.func133, Try.ntmps133
  go_wp2
  go_loopw [8] (fun k wr => ∃ i : Nat, k = .int .i64 (i : Int) ∧ i ≤ n ∧ Hid (∀ x ∈ l.take i, ¬ x.name = name) ∧ Hid (Below w.heap.size w wr)) (fun k _ => n - (intOf k).toNat)
  case atStart => exact ⟨0, rfl, Nat.zero_le _, fun x hx => by simp at hx, Below.refl _ _⟩
  case round =>
    obtain ⟨i, rfl, hi, HO, HB⟩ := hrel
    by_cases hlt : i < n
    · have his : i < l.length := by rw [HN.out]; exact hlt
      obtain ⟨b, o, rfl, hb, c1, c2⟩ := HR.out.below HB.out i his
      have hin : (i : Int) < (n : Int) := by omega
      have HT := hid (take_snocN his)
      have z1 := (HZ.out _ (List.getElem_mem his)).1
      have HS := hid HB.out.size
      have HCr := hid ((HB.out.cell (p := ⟨b0, o0, none⟩) HP.out).trans HC.out)
      have C := hid (cAttrAt1 l[i].name l[i].value name b0 o0 wr (Nat.lt_of_lt_of_le HP.out HS.out) HCr.out z1 hm)
      by_cases hq : l[i].name = name
      · have HI := hid (show IdxIs l name (i : Int) from .inr ⟨i, his, rfl, hq, HO.out⟩)
        have e0 : decide (l[i].name = name) = true := decide_eq_true hq
        rw [e0] at C
        generalize l[i].name = x at *
        generalize l[i].value = y at *
        clear hq e0
        go_wp2_with fail
        refine C.out.mono ?_
        rintro e w1 ⟨rfl, hb1⟩
        have HB1 := hid (bb HB.out hb1)
        go_wp2
        go_ret
        exact ⟨_, rfl, HI.out, HB1.out⟩
      · have HO2 := hid (show ∀ x ∈ l.take (i + 1), ¬ x.name = name by
          rw [HT.out]
          intro x hx
          rcases List.mem_append.1 hx with h | h
          · exact HO.out x h
          · rw [List.mem_singleton] at h
            subst h
            exact hq)
        have e0 : decide (l[i].name = name) = false := decide_eq_false hq
        rw [e0] at C
        generalize l[i].name = x at *
        generalize l[i].value = y at *
        clear hq e0
        go_wp2_with fail
        refine C.out.mono ?_
        rintro e w1 ⟨rfl, hb1⟩
        have HB1 := hid (bb HB.out hb1)
        go_wp2
        go_roundw
        case rel => exact ⟨i + 1, by go_num, by omega, HO2.out, HB1.out⟩
        case measure => simp [intOf]; omega
    · have hie : i = n := by omega
      subst hie
      have h1 := HO.out
      rw [List.take_of_length_le (by rw [HN.out]; exact Nat.le_refl _)] at h1
      have HI := hid (show IdxIs l name (-1) from .inl ⟨rfl, h1⟩)
      clear h1
      go_wp2
      go_ret
      exact ⟨_, rfl, HI.out, HB.out⟩

set_option maxHeartbeats 1000000 in
theorem cAttrAt (a : Option Addr) (cap : Nat) (l : List At) (name : ByteArray) (w : World) (hR : AtRow w a l) (hz : AtSz 1048576 l) (hn : l.length ≤ 1048576) (hm : name.size ≤ 1048576) :
    Calls Try.prog 116 #[.slice a l.length cap, .string name] w fun e w' => ∃ r : Int, e = .returned (.int .i64 r) ∧ IdxIs l name r ∧ Below w.heap.size w w' := by
  have hmf : ∀ (fn : Fn) (first cap : Array Value) (w : World), (Instr.makeFunc fn first cap).run Try.prog w = .ok (.func fn first cap) w := fun _ _ _ _ => rfl
  have HB0 := hid ((Below.refl w.heap.size w).alloc (Nat.le_refl _) (.cells #[.string name] 9))
  have C := hid (cIndexFunc a cap l name w.heap.size 0 (w.alloc (.cells #[.string name] 9)) (hR.below HB0.out) hz hn hm (by simp) (by simp [go_sem]))
  clear hR hz
  generalize l.length = n at *
  go_enter Try.func116, Try.ntmps116
  go_wp2_with fail
  refine C.out.mono ?_
  rintro e w1 ⟨r, rfl, hr, hb1⟩
  have HI := hid hr
  have HB1 := hid (bb HB0.out hb1)
  clear hr hb1
  go_wp2
  go_ret
  exact ⟨_, rfl, HI.out, HB1.out⟩

end Go.Proofs.Ytkcmagfbacmllaa

namespace Go.Proofs.Ytkcmagfbacmllaa
open Go.RowKit
set_option linter.unusedVariables false
set_option linter.unusedSimpArgs false

theorem cValueOkI (s : ByteArray) (w : World) (hs : s.size ≤ 1048576) :
    Calls Try.prog 91 #[.string s] w fun e w' => e = .returned (.bool (decide (s.size ≤ 60) && plainL s.data.toList)) ∧ w' = w := by
  have CP := fun w => c_impl_PlainOk s w (by unfold maxLen; omega)
  by_cases q : s.size ≤ 60
  · rw [decide_eq_true q, Bool.true_and]
    have hd : decide ((s.size : Int) ≤ 60) = true := by simp; omega
    go_enter Try.func91, Try.ntmps91
    go_wp2_with fail
    refine (CP _).mono ?_
    rintro e w1 ⟨rfl, rfl⟩
    go_wp2_with fail
    go_ret
    exact ⟨rfl, rfl⟩
  · rw [decide_eq_false q, Bool.false_and]
    have hd : decide ((s.size : Int) ≤ 60) = false := by simp; omega
    clear CP
    go_enter Try.func91, Try.ntmps91
    go_wp2_with fail
    go_ret
    exact ⟨rfl, rfl⟩

theorem box2c {w : World} {g : Nat} {x y : Value} {T : TypeId} (h : w.heap[g]? = some (.cells #[x, y] T (0, 0))) : w.cell? ⟨g, 0, none⟩ = some x ∧ w.cell? ⟨g, 1, none⟩ = some y :=
  ⟨by rw [Lib.cell_of_heap h]; rfl, by rw [Lib.cell_of_heap h]; rfl⟩

set_option maxRecDepth 8000 in
set_option maxHeartbeats 4000000 in
theorem cAttrsOkI (a : Option Addr) (cap : Nat) (l : List At) (w : World) (hR : AtRow w a l) (hz : AtSz 1048576 l) (hn : l.length ≤ 1048576) :
    Calls Try.prog 90 #[.slice a l.length cap] w fun e w' => e = .returned (.bool (attrsB l)) ∧ Below w.heap.size w w' := by
  obtain ⟨V, hV⟩ : ∃ V, attrsB l = V := ⟨_, rfl⟩
  have HV := hid hV
  rw [hV]
  have HF : Hid (¬ AttrsOk l → V = false) := fun h => by rw [← HV.out]; exact attrsB_f h
  have HT : Hid (AttrsOk l → V = true) := fun h => by rw [← HV.out]; exact attrsB_t h
  clear hV HV
  have HR := hid hR
  have HZ := hid hz
  have HC := hid (fun (w : World) (hR : AtRow w a l) name (hm : name.size ≤ 1048576) => cAttrAt a cap l name w hR hz hn hm)
  clear hR hz
  obtain ⟨n, hnn⟩ : ∃ n, l.length = n := ⟨_, rfl⟩
  have HN := hid hnn
  rw [hnn] at hn HC ⊢
  clear hnn
  by_cases h6 : n ≤ 6
  · have d6 : decide ((6 : Int) < (n : Int)) = false := by simp; omega
    go_enter Try.func90, Try.ntmps90
    go_wp2
    go_loopw [10] (fun k wr => ∃ i : Nat, k = .int .i64 (i : Int) ∧ i ≤ n ∧ Hid (AtsOk i l) ∧ Hid (Below w.heap.size w wr)) (fun k _ => n - (intOf k).toNat)
    case atStart => exact ⟨0, rfl, Nat.zero_le _, ⟨fun j _ h => by omega, fun i j _ _ h => by omega⟩, Below.refl _ _⟩
    case round =>
      obtain ⟨i, rfl, hi, HA, HB⟩ := hrel
      by_cases hlt : i < n
      · have his : i < l.length := by rw [HN.out]; exact hlt
        have hin : (i : Int) < (n : Int) := by omega
        obtain ⟨b, o, rfl, hb, c1, c2⟩ := HR.out.below HB.out i his
        obtain ⟨z1, z2⟩ := HZ.out _ (List.getElem_mem his)
        have CN := hid (fun w => c_impl_NameOk l[i].name w z1)
        have CV := hid (fun w => cValueOkI l[i].value w z2)
        have M := hid (heap_alloc_new wr (.cells #[.string l[i].name, .string l[i].value] 115))
        have HB0 := hid (HB.out.alloc HB.out.size (.cells #[.string l[i].name, .string l[i].value] 115))
        cases q1 : nameL l[i].name.data.toList
        · have HW := hid (HF.out (fun h => by have := (h.2.1 i his (by rw [HN.out]; exact hlt)).1; rw [q1] at this; cases this))
          rw [q1] at CN
          generalize l[i].name = x at *
          generalize l[i].value = y at *
          clear CV HC
          go_wp2_with fail
          refine (CN.out _).mono ?_
          rintro e w1 ⟨rfl, hb1⟩
          have HB1 := hid (bb HB0.out hb1)
          clear hb1 c1 c2 CN
          go_wp2_with fail
          go_ret
          exact ⟨by rw [HW.out]; rfl, HB1.out⟩
        · cases q2 : (decide (l[i].value.size ≤ 60) && plainL l[i].value.data.toList)
          · have HW := hid (HF.out (fun h => by
              obtain ⟨_, k1, k2⟩ := h.2.1 i his (by rw [HN.out]; exact hlt)
              rw [k1, decide_eq_true k2] at q2
              cases q2))
            rw [q1] at CN
            rw [q2] at CV
            generalize l[i].name = x at *
            generalize l[i].value = y at *
            clear HC
            go_wp2_with fail
            refine (CN.out _).mono ?_
            rintro e w1 ⟨rfl, hb1⟩
            have HB1 := hid (bb HB0.out hb1)
            obtain ⟨x0, x1⟩ := box2c (blk_below M.out hb1)
            clear hb1 c1 c2 CN
            go_wp2_with fail
            refine (CV.out _).mono ?_
            rintro e w2 ⟨rfl, rfl⟩
            go_wp2_with fail
            go_ret
            exact ⟨by rw [HW.out]; rfl, HB1.out⟩
          · have HOK := hid (show atOk l[i] from ⟨q1, by
              simp only [Bool.and_eq_true, decide_eq_true_eq] at q2
              exact ⟨q2.2, q2.1⟩⟩)
            rw [q1] at CN
            rw [q2] at CV
            obtain ⟨x, hx⟩ : ∃ x, l[i].name = x := ⟨_, rfl⟩
            obtain ⟨y, hy⟩ : ∃ y, l[i].value = y := ⟨_, rfl⟩
            have HX := hid hx
            rw [hx] at c1 CN z1 M HB0
            rw [hy] at c2 CV z2 M HB0
            have HCx := hid (fun w1 (h : Below w.heap.size w w1) => HC.out w1 (HR.out.below h) x z1)
            clear hx hy q1 q2 HC
            go_wp2_with fail
            refine (CN.out _).mono ?_
            rintro e w1 ⟨rfl, hb1⟩
            have HB1 := hid (bb HB0.out hb1)
            obtain ⟨x0, x1⟩ := box2c (blk_below M.out hb1)
            clear hb1 c1 c2 CN
            go_wp2_with fail
            refine (CV.out _).mono ?_
            rintro e w2 ⟨rfl, rfl⟩
            go_wp2_with fail
            refine (HCx.out _ HB1.out).mono ?_
            rintro e w3 ⟨r, rfl, hr, hb3⟩
            have HB3 := hid (bb HB1.out hb3)
            clear hb3 x0 x1
            rcases hr with ⟨_, h1⟩ | ⟨j, hj, rfl, hq, h1⟩
            · exact absurd HX.out (h1 _ (List.getElem_mem his))
            · have hji : j ≤ i := by
                rcases Nat.lt_or_ge i j with h' | h'
                · exact absurd HX.out (h1 l[i] (List.mem_take_iff_getElem.2 ⟨i, by omega, rfl⟩))
                · exact h'
              rcases Nat.lt_or_eq_of_le hji with h' | rfl
              · have HW := hid (HF.out (fun h => h.2.2 i j his h' (by rw [HN.out]; exact hlt) (by rw [hq, HX.out])))
                have hd : ((j : Int) == (i : Int)) = false := by simp; omega
                clear hq h1 hj hji h'
                go_wp2_with fail
                go_ret
                exact ⟨by rw [HW.out]; rfl, HB3.out⟩
              · have HA2 := hid (HA.out.next his HOK.out (fun m hm => by
                  intro e
                  exact h1 l[m] (List.mem_take_iff_getElem.2 ⟨m, by omega, rfl⟩) (e.trans HX.out)))
                clear hq h1 hj hji
                go_wp2_with fail
                go_roundw
                case rel => exact ⟨j + 1, by go_num, by omega, HA2.out, HB3.out⟩
                case measure => simp [intOf]; omega
      · have hie : i = n := by omega
        subst hie
        have HW := hid (HT.out ⟨by rw [HN.out]; exact h6, by rw [HN.out]; exact HA.out⟩)
        go_wp2_with fail
        go_ret
        exact ⟨by rw [HW.out]; rfl, HB.out⟩
  · have d6 : decide ((6 : Int) < (n : Int)) = true := by simp; omega
    have HW := hid (HF.out (fun h => h6 (by have := h.1; rw [HN.out] at this; exact this)))
    go_enter Try.func90, Try.ntmps90
    go_wp2
    go_ret
    exact ⟨by rw [HW.out]; rfl, Below.refl _ _⟩

set_option maxRecDepth 8000 in
set_option maxHeartbeats 2000000 in
theorem cTokenOkI (t : Tk) (a : Option Addr) (cap : Nat) (w : World) (hR : AtRow w a t.attrs) (hz : TkSz 1048576 t) :
    Calls Try.prog 54 #[tkV t a cap] w fun e w' => e = .returned (.bool (tokB t)) ∧ Below w.heap.size w w' := by
  obtain ⟨k, name, l, text⟩ := t
  obtain ⟨h1, h2, h3, h4⟩ := hz
  simp only at hR h1 h2 h3 h4
  have HB0 := hid ((Below.refl w.heap.size w).alloc (Nat.le_refl _) (.cells #[.int .i64 k, .string name, .slice a l.length cap, .string text] 78))
  have HR := hid (hR.below HB0.out)
  have CN := fun w => c_impl_NameOk name w h1
  have CA := fun (w : World) (hR : AtRow w a l) => cAttrsOkI a cap l w hR h3 h2
  have CX := fun w => cValueOkI text w h4
  have E1 := empty_is name
  have E2 := empty_is text
  obtain ⟨V, hV⟩ : ∃ V, tokB ⟨k, name, l, text⟩ = V := ⟨_, rfl⟩
  have HV := hid hV
  rw [hV]
  clear hV hR h3
  simp only [tkV]
  obtain ⟨n, hn⟩ : ∃ n, l.length = n := ⟨_, rfl⟩
  have HN := hid hn
  rw [hn] at CA HB0 HR h2 ⊢
  clear hn
  have E3 : ((n : Int) == 0) = decide (n = 0) := by
    by_cases h : n = 0
    · subst h; rfl
    · rw [decide_eq_false h]; simp; omega
  by_cases k1 : k = 1
  · subst k1
    have hv := HV.out
    unfold tokB at hv
    simp only [if_true] at hv
    cases q1 : nameL name.data.toList
    · rw [q1] at hv CN
      have HW := hid (show V = false from hv.symm)
      clear hv CA CX
      go_enter Try.func54, Try.ntmps54
      go_wp2_with fail
      refine (CN _).mono ?_
      rintro e w1 ⟨rfl, hb1⟩
      have HB1 := hid (bb HB0.out hb1)
      go_wp2_with fail
      go_ret
      exact ⟨by rw [HW.out]; rfl, HB1.out⟩
    · rw [q1, Bool.true_and] at hv
      rw [q1] at CN
      cases q2 : attrsB l
      · rw [q2] at hv CA
        have HW := hid (show V = false from hv.symm)
        clear hv CX
        go_enter Try.func54, Try.ntmps54
        go_wp2_with fail
        refine (CN _).mono ?_
        rintro e w1 ⟨rfl, hb1⟩
        obtain ⟨hc, hf⟩ := bcell hb1
        have HB1 := hid (bb HB0.out hb1)
        have HR1 := hid (HR.out.below hb1)
        go_wp2_with fail
        refine (CA _ HR1.out).mono ?_
        rintro e w2 ⟨rfl, hb2⟩
        have HB2 := hid (bb HB1.out hb2)
        go_wp2_with fail
        go_ret
        exact ⟨by rw [HW.out]; rfl, HB2.out⟩
      · rw [q2, Bool.true_and] at hv
        rw [q2] at CA
        have HW := hid hv
        rw [hv] at E2
        clear hv CX
        go_enter Try.func54, Try.ntmps54
        go_wp2_with fail
        refine (CN _).mono ?_
        rintro e w1 ⟨rfl, hb1⟩
        obtain ⟨hc, hf⟩ := bcell hb1
        have HB1 := hid (bb HB0.out hb1)
        have HR1 := hid (HR.out.below hb1)
        have hz1 : w.heap.size < w1.heap.size := by have := hb1.size; simp at this; omega
        go_wp2_with fail
        refine (CA _ HR1.out).mono ?_
        rintro e w2 ⟨rfl, hb2⟩
        obtain ⟨hc2, hf2⟩ := bcell hb2
        have HB2 := hid (bb HB1.out hb2)
        go_wp2_with fail
        go_ret
        exact ⟨rfl, HB2.out⟩
  · by_cases k2 : k = 2
    · subst k2
      have hv := HV.out
      unfold tokB at hv
      simp only [show ¬ ((2 : Int) = 1) by decide, if_false, if_true] at hv
      rw [HN.out] at hv
      cases q1 : nameL name.data.toList
      · rw [q1] at hv CN
        have HW := hid (show V = false from hv.symm)
        clear hv CA CX
        go_enter Try.func54, Try.ntmps54
        go_wp2_with fail
        refine (CN _).mono ?_
        rintro e w1 ⟨rfl, hb1⟩
        have HB1 := hid (bb HB0.out hb1)
        go_wp2_with fail
        go_ret
        exact ⟨by rw [HW.out]; rfl, HB1.out⟩
      · rw [q1, Bool.true_and] at hv
        rw [q1] at CN
        cases q2 : decide (n = 0)
        · rw [q2] at hv E3
          have HW := hid (show V = false from hv.symm)
          clear hv CX CA
          go_enter Try.func54, Try.ntmps54
          go_wp2_with fail
          refine (CN _).mono ?_
          rintro e w1 ⟨rfl, hb1⟩
          obtain ⟨hc, hf⟩ := bcell hb1
          have HB1 := hid (bb HB0.out hb1)
          go_wp2_with fail
          go_ret
          exact ⟨by rw [HW.out]; rfl, HB1.out⟩
        · rw [q2, Bool.true_and] at hv
          rw [q2] at E3
          rw [hv] at E2
          clear hv CX CA
          go_enter Try.func54, Try.ntmps54
          go_wp2_with fail
          refine (CN _).mono ?_
          rintro e w1 ⟨rfl, hb1⟩
          obtain ⟨hc, hf⟩ := bcell hb1
          have HB1 := hid (bb HB0.out hb1)
          go_wp2_with fail
          go_ret
          exact ⟨rfl, HB1.out⟩
    · by_cases k3 : k = 3
      · subst k3
        have hv := HV.out
        unfold tokB at hv
        simp only [show ¬ ((3 : Int) = 1) by decide, show ¬ ((3 : Int) = 2) by decide, if_false, if_true] at hv
        rw [HN.out] at hv
        cases q1 : decide (name.size = 0)
        · rw [q1] at hv E1
          have HW := hid (show V = false from hv.symm)
          clear hv CA CX CN
          go_enter Try.func54, Try.ntmps54
          go_wp2_with fail
          go_ret
          exact ⟨by rw [HW.out]; rfl, HB0.out⟩
        · rw [q1, Bool.true_and] at hv
          rw [q1] at E1
          cases q2 : decide (n = 0)
          · rw [q2] at hv E3
            have HW := hid (show V = false from hv.symm)
            clear hv CX CA CN
            go_enter Try.func54, Try.ntmps54
            go_wp2_with fail
            go_ret
            exact ⟨by rw [HW.out]; rfl, HB0.out⟩
          · rw [q2, Bool.true_and] at hv
            rw [q2] at E3
            cases q3 : decide (text.size = 0)
            · rw [q3] at E2
              have q3' : ¬ text.size = 0 := of_decide_eq_false q3
              have e1 : textB text = (decide (text.size ≤ 60) && plainL text.data.toList) := by
                unfold textB
                rw [Bool.and_comm]
                congr 1
                rw [decide_eq_decide]
                omega
              rw [e1] at hv
              rw [hv] at CX
              clear hv CA CN e1
              go_enter Try.func54, Try.ntmps54
              go_wp2_with fail
              refine (CX _).mono ?_
              rintro e w1 ⟨rfl, rfl⟩
              go_wp2_with fail
              go_ret
              exact ⟨rfl, HB0.out⟩
            · rw [q3] at E2
              have q3' : text.size = 0 := of_decide_eq_true q3
              have e1 : textB text = false := by
                unfold textB
                rw [decide_eq_false (by omega), Bool.and_false]
              rw [e1] at hv
              have HW := hid hv
              clear hv CA CN CX e1
              go_enter Try.func54, Try.ntmps54
              go_wp2_with fail
              go_ret
              exact ⟨by rw [← HW.out]; rfl, HB0.out⟩
      · have hv := HV.out
        unfold tokB at hv
        simp only [k1, k2, k3, if_false] at hv
        have HW := hid (show V = false from hv.symm)
        have d1 : (k == 1) = false := by simpa using k1
        have d2 : (k == 2) = false := by simpa using k2
        have d3 : (k == 3) = false := by simpa using k3
        clear hv CA CX CN
        go_enter Try.func54, Try.ntmps54
        go_wp2_with fail
        go_ret
        exact ⟨by rw [HW.out]; rfl, HB0.out⟩

end Go.Proofs.Ytkcmagfbacmllaa
