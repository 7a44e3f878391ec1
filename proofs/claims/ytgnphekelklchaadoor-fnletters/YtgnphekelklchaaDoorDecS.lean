/- Contract of the specification's FromLetters: it answers what fromL says. -/
import Derived.Test.YtgnphekelklchaaDoorEncS
import Derived.Test.YtgnphekelklchaaDoorMathD
import Derived.Test.YtgnphekelklchaaDoorDecI
import Derived.WalkKit
import Derived.OwnWalk
namespace Go.Proofs.YtgnphekelklchaaDoor
open Go.RowKit
set_option linter.unusedVariables false
set_option linter.unusedSimpArgs false

theorem parse4 : ∀ l : List UInt8, 4 ≤ l.length → parseL l = match grpD (l.take 4) with
    | none => none
    | some (n, p) => (parseL (l.drop 4)).map (bytes3 n p ++ ·)
  | a :: b :: c :: d :: r, _ => by
    rw [parseL]
    simp only [List.take_succ_cons, List.take_zero, List.drop_succ_cons, List.drop_zero]
    cases grpD [a, b, c, d] with
    | none => rfl
    | some np => rfl
  | [], h => by simp at h
  | [_], h => by simp at h
  | [_, _], h => by simp at h
  | [_, _, _], h => by simp at h

theorem parse_stop {l : List UInt8} {j m : Nat} {acc : List UInt8} (h : parseL l = (parseL (l.drop j)).map (acc ++ ·)) (h4 : j + 4 ≤ l.length) (hm : m ≤ 4) (hg : grpD ((l.drop j).take m) = none) : fromL l = none := by
  have e := parse4 (l.drop j) (by rw [List.length_drop]; omega)
  rw [grpD_none m 4 hg hm] at e
  unfold fromL
  rw [h, e]
  rfl

theorem parse_next {l : List UInt8} {j n p : Nat} {acc : List UInt8} (h : parseL l = (parseL (l.drop j)).map (acc ++ ·)) (h4 : j + 4 ≤ l.length) (hg : grpD ((l.drop j).take 4) = some (n, p)) : parseL l = (parseL (l.drop (j + 4))).map ((acc ++ bytes3 n p) ++ ·) := by
  have e := parse4 (l.drop j) (by rw [List.length_drop]; omega)
  rw [hg] at e
  rw [h, e, List.drop_drop]
  simp only [Option.map_map]
  congr 1
  funext x
  simp

theorem from_len {l : List UInt8} (h : ¬ l.length % 4 = 0) : fromL l = none := by
  cases hf : fromL l with
  | none => rfl
  | some x =>
    have e := congrArg List.length ((fromL_iff l x).1 hf)
    rw [toL_len] at e
    omega

theorem grp_take (s : ByteArray) (j m : Nat) (h : j + m < s.size) : (s.data.toList.drop j).take (m + 1) = (s.data.toList.drop j).take m ++ [s[j + m]] := by
  rw [List.take_add_one, List.getElem?_drop, List.getElem?_eq_getElem (by rw [← sz s]; exact h)]
  rfl

theorem own_shrink {w : World} {B g n m cap : Nat} {xs ys : List UInt8} (h : w.ownsRow B 5 1 (.slice (some ⟨g, 0, none⟩) n cap) n (Lib.byteCells xs)) (hy : ys = xs.take m) (hm : m ≤ n) : w.ownsRow B 5 1 (.slice (some ⟨g, 0, none⟩) m cap) ys.length (Lib.byteCells ys) := by
  obtain ⟨hl, h⟩ := h
  have hlx : xs.length = n := by simpa [Lib.byteCells] using hl
  have hyl : ys.length = m := by rw [hy, List.length_take]; omega
  rcases h with ⟨h1, _⟩ | ⟨g', cap', cur, h1, hg, hh, hn, hc, hs, ht⟩
  · cases h1
  · cases h1
    refine ⟨by simp [Lib.byteCells], .inr ⟨g, cap, cur, by rw [hyl], hg, hh, by omega, hc, hs, ?_⟩⟩
    rw [hyl, hy]
    have : cur.toList.take (m * 1) = (cur.toList.take (n * 1)).take m := by rw [List.take_take]; congr 1; omega
    rw [this, ht]
    simp [Lib.byteCells, List.map_take]

theorem three_cell (w : World) (a b c : Value) : ∀ j u, [a, b, c][j]? = some u → (w.alloc (.cells #[a, b, c] 5)).cell? ((⟨w.heap.size, 0, none⟩ : Addr).add j) = some u := by
  intro j u hj
  match j, hj with
  | 0, hj => simp at hj; subst hj; simp [Addr.add]
  | 1, hj => simp at hj; subst hj; simp [Addr.add]
  | 2, hj => simp at hj; subst hj; simp [Addr.add]

theorem three_one (x y z : Int) : ∀ u ∈ [Value.int .u8 x, .int .u8 y, .int .u8 z], u.oneCell' = true := by
  intro u hu
  simp at hu
  rcases hu with rfl | rfl | rfl <;> rfl

theorem and255N (x : Nat) (h : x < 9223372036854775808) : bits BinOp.and IntKind.i64 (x : Int) 255 = ((x % 256 : Nat) : Int) := by
  have e : bits BinOp.and IntKind.i64 (x : Int) 255 = IntKind.i64.wrap ((BitVec.ofInt 64 (x : Int) &&& BitVec.ofInt 64 255).toNat : Int) := rfl
  have h63 : (BitVec.ofInt 64 255).toNat = 2 ^ 8 - 1 := by decide
  rw [e, BitVec.toNat_and, ofInt_nat 64 x (by omega), h63, Nat.and_two_pow_sub_one_eq_mod]
  exact IntWalk.i64_in _ (by omega)

theorem or64_6 (n v : Nat) (hn : n < 16777216) (hv : v < 64) : bits BinOp.or IntKind.i64 ((n : Int) * 64) (v : Int) = ((n * 64 + v : Nat) : Int) := by
  have e := or64_add 6 n v (by omega) (by omega)
  rw [show ((2 ^ 6 * n : Nat) : Int) = (n : Int) * 64 by omega] at e
  rw [e]
  omega

theorem wrap6 (n : Nat) (hn : n < 16777216) : wrap64 ((n : Int) * 64) = (n : Int) * 64 := by
  unfold wrap64
  omega

theorem pow_le (m : Nat) (h : m ≤ 3) : 64 ^ m ≤ 262144 := by
  rcases (show m = 0 ∨ m = 1 ∨ m = 2 ∨ m = 3 by omega) with rfl | rfl | rfl | rfl <;> decide

theorem slice_one (s : ByteArray) (k : Nat) (h : k < s.size) (W : World) : (Instr.slice 9 (.string s) (some (.int .i64 (k : Int))) (some (.int .i64 ((k : Int) + 1))) none).run Tryd.prog W = .ok (.string ⟨#[s[k]]⟩) W := by
  have := run_slice_string (P := Tryd.prog) W 9 s .i64 .i64 (k : Int) ((k : Int) + 1) Tryd.underlying9 (by omega) (by omega) (by omega)
  rw [this]
  congr 2
  apply ByteArray.ext
  apply Array.toList_inj.1
  rw [ByteArray.data_extract, Array.toList_extract, List.extract_eq_take_drop]
  have e1 : ((k : Int) + 1).toNat - ((k : Int)).toNat = 1 := by omega
  rw [e1, Int.toNat_natCast, drop1 s k h]
  rfl

theorem take_app (a b c : List UInt8) (p : Nat) (h : c = b.take (3 - p)) (hp : p ≤ 2) : a ++ c = (a ++ b).take (a.length + 3 - p) := by
  have e1 : (a ++ b).take (a.length + 3 - p) = a ++ b.take (3 - p) := by
    rw [show a.length + 3 - p = a.length + (3 - p) by omega]
    exact List.take_length_add_append _
  rw [e1, h]

set_option maxHeartbeats 8000000 in
theorem cDecS (s : ByteArray) (w : World) (h0 : s.size ≤ 1048576) :
    Calls Tryd.prog 12 #[.string s] w fun e w' => e = .returned (.tuple #[.string ⟨(outL (fromL s.data.toList)).toArray⟩, .bool (fromL s.data.toList).isSome]) ∧ Below w.heap.size w w' := by
  by_cases hm4 : s.size % 4 = 0
  · obtain ⟨i0, hi, hz0, hz1, hz2⟩ := info_parts info5
    have hq0 : (((s.size : Int) % 4) != 0) = false := by simp; omega
    go_enter Tryd.func12, Tryd.ntmps12
    go_wp2
    go_loopw [4, 5] (fun v i wr => ∃ (j : Nat) (acc : List UInt8), i = .int .i64 (j : Int) ∧ j ≤ s.size ∧ j % 4 = 0 ∧ parseL s.data.toList = (parseL (s.data.toList.drop j)).map (acc ++ ·) ∧ acc.length ≤ j ∧ wr.ownsRow w.heap.size 5 1 v acc.length (Lib.byteCells acc) ∧ Below w.heap.size w wr) (fun _ i _ => s.size - (intOf i).toNat)
    case atStart => exact ⟨0, [], rfl, Nat.zero_le _, rfl, by simp, by simp, World.ownsRow_made _ _ _ (Nat.le_refl _) (by decide) rfl, (Below.refl _ _).alloc (Nat.le_refl _) _⟩
    case round =>
      obtain ⟨j, acc, rfl, hj, hj4, hacc, hlen, hown, hB⟩ := hrel
      have hsz := hB.size
      have HA : Hid (parseL s.data.toList = (parseL (s.data.toList.drop j)).map (acc ++ ·)) := hacc
      clear hacc
      by_cases hlt : j < s.size
      · have h4 : j + 4 ≤ s.size := by omega
        have HO : Hid (wr.ownsRow w.heap.size 5 1 u4 acc.length (Lib.byteCells acc)) := hown
        clear hown
        go_wp2
        go_loop [6, 7, 8] (fun n p k => ∃ (m n' p' : Nat), m ≤ 4 ∧ k = .int .i64 (m : Int) ∧ n = .int .i64 (n' : Int) ∧ p = .int .i64 (p' : Int) ∧ p' ≤ 2 ∧ n' < 64 ^ m ∧ grpD ((s.data.toList.drop j).take m) = some (n', p')) (fun _ _ k => meas k)
        case atStart => exact ⟨0, 0, 0, by omega, rfl, rfl, rfl, by omega, by decide, rfl⟩
        case round =>
          obtain ⟨m, n, p, hm, rfl, rfl, rfl, hp, hn, hg⟩ := hrel
          have HG : Hid (grpD ((s.data.toList.drop j).take m) = some (n, p)) := hg
          clear hg
          by_cases hm3 : m < 4
          · have hn2 : n < 16777216 := by have := pow_le m (by omega); omega
            have hjm : j + m < s.size := by omega
            obtain ⟨k, hk⟩ : ∃ k, j + m = k := ⟨_, rfl⟩
            have hks : k < s.size := by omega
            have hkj : (j : Int) + (m : Int) = (k : Int) := by omega
            have hst : grpD ((s.data.toList.drop j).take (m + 1)) = stepG (some (n, p)) (s[k]'hks) := by
              have e := grp_take s j m hjm
              rw [e, grpD_snoc, HG.out]
              congr 1
              congr 1
            have hpow : 64 ^ (m + 1) = 64 ^ m * 64 := Nat.pow_succ _ _
            obtain ⟨b, hb⟩ : ∃ b : UInt8, s[k]'hks = b := ⟨_, rfl⟩
            have hsl := slice_one s k hks
            rw [hb] at hst hsl
            have wn := wrap6 n hn2
            have hmi : (m : Int) < 4 := by omega
            have hbn : ((s[k]'hks).toNat : Int) = (b.toNat : Int) := by rw [hb]
            have C := fun w => cValS ⟨#[b]⟩ w
            rw [show valOf (⟨#[b]⟩ : ByteArray).data.toList = valN b from rfl] at C
            by_cases hb61 : b = 61
            · have hbe : ((b.toNat : Int) == 61) = true := by rw [hb61]; rfl
              by_cases hp2 : p = 2
              · have HN : Hid (fromL s.data.toList = none) := parse_stop HA.out (by rw [← sz s]; omega) (show m + 1 ≤ 4 by omega) (by rw [hst, hb61]; simp [stepG, hp2])
                subst hp2
                clear hst hb61 hk hpow
                go_wp2_with (go_at_call 17; refine (C _).mono ?_; rintro e w1 ⟨rfl, rfl⟩)
                go_ret2
                exact ⟨by rw [HN.out]; rfl, hB⟩
              · have HS : Hid (grpD ((s.data.toList.drop j).take (m + 1)) = some (n * 64, p + 1)) := by show grpD _ = _; rw [hst, hb61]; exact stepG_fill _ _ hp2
                have hpl : (p : Int) + 1 ≤ 2 := by omega
                have o0 : bits BinOp.or IntKind.i64 ((n : Int) * 64) 0 = ((n * 64 : Nat) : Int) := or64_6 n 0 hn2 (by omega)
                have hnn : n * 64 < 64 ^ (m + 1) := by omega
                clear hst hb61 hk hpow
                go_wp2_with (go_at_call 17; refine (C _).mono ?_; rintro e w1 ⟨rfl, rfl⟩)
                go_round
                case rel => exact ⟨m + 1, n * 64, p + 1, by omega, by go_num, by go_num, by go_num, by omega, hnn, HS.out⟩
                case measure => simp [meas, intOf]; omega
            · have hbe : ((b.toNat : Int) == 61) = false := by
                simp only [beq_eq_false_iff_ne]
                exact fun e => hb61 (UInt8.toNat_inj.1 (show b.toNat = 61 by omega))
              by_cases hneg : valN b < 0
              · have hdec : decide (valN b < 0) = true := decide_eq_true hneg
                have HN : Hid (fromL s.data.toList = none) := parse_stop HA.out (by rw [← sz s]; omega) (show m + 1 ≤ 4 by omega) (by rw [hst]; simp [stepG, hb61, hneg])
                clear hst hb61 hk hpow
                go_wp2_with (go_at_call 17; refine (C _).mono ?_; rintro e w1 ⟨rfl, rfl⟩)
                go_ret2
                exact ⟨by rw [HN.out]; rfl, hB⟩
              · obtain ⟨v, hv⟩ : ∃ v : Nat, valN b = (v : Int) := ⟨(valN b).toNat, by omega⟩
                have hv64 : v < 64 := by have := val_lt b; omega
                have HS : Hid (grpD ((s.data.toList.drop j).take (m + 1)) = some (n * 64 + v, p)) := by
                  show grpD _ = _
                  rw [hst]
                  simp only [stepG, if_neg hb61, if_neg hneg]
                  rw [hv]
                  rfl
                have hpl : (p : Int) ≤ 2 := by omega
                have o1 := or64_6 n v hn2 hv64
                have hnn : n * 64 + v < 64 ^ (m + 1) := by omega
                rw [hv] at C
                clear hst hb61 hk hpow hneg hv
                go_wp2_with (go_at_call 17; refine (C _).mono ?_; rintro e w1 ⟨rfl, rfl⟩)
                go_round
                case rel => exact ⟨m + 1, n * 64 + v, p, by omega, by go_num, by go_num, by go_num, by omega, hnn, HS.out⟩
                case measure => simp [meas, intOf]; omega
          · obtain rfl : m = 4 := by omega
            have hn2 : n < 16777216 := hn
            have HP : Hid (parseL s.data.toList = (parseL (s.data.toList.drop (j + 4))).map ((acc ++ bytes3 n p) ++ ·)) := parse_next HA.out (by rw [← sz s]; omega) HG.out
            obtain ⟨X0, hX0⟩ : ∃ X : UInt8, UInt8.ofNat (n / 65536) = X := ⟨_, rfl⟩
            obtain ⟨X1, hX1⟩ : ∃ X : UInt8, UInt8.ofNat (n / 256 % 256) = X := ⟨_, rfl⟩
            obtain ⟨X2, hX2⟩ : ∃ X : UInt8, UInt8.ofNat (n % 256) = X := ⟨_, rfl⟩
            obtain ⟨Y1, hY1⟩ : ∃ Y : Nat, n / 256 % 256 = Y := ⟨_, rfl⟩
            obtain ⟨Y2, hY2⟩ : ∃ Y : Nat, n % 256 = Y := ⟨_, rfl⟩
            have e0 : IntKind.u8.wrap ((n : Int) / 65536) = (X0.toNat : Int) := by rw [← hX0]; exact u8_in (n / 65536) (by omega)
            have a1 : bits BinOp.and IntKind.i64 ((n : Int) / 256) 255 = (Y1 : Int) := by rw [← hY1]; exact and255N (n / 256) (by omega)
            have a2 : bits BinOp.and IntKind.i64 (n : Int) 255 = (Y2 : Int) := by rw [← hY2]; exact and255N n (by omega)
            have e1 : IntKind.u8.wrap (Y1 : Int) = (X1.toNat : Int) := by rw [← hX1, hY1]; exact u8_in Y1 (by omega)
            have e2 : IntKind.u8.wrap (Y2 : Int) = (X2.toNat : Int) := by rw [← hX2, hY2]; exact u8_in Y2 (by omega)
            have HB3 : Hid (bytes3 n p = [X0, X1, X2].take (3 - p)) := by show bytes3 n p = _; unfold bytes3; rw [hX0, hX1, hX2]
            have hown := HO.out
            clear hX0 hX1 hX2 hY1 hY2 HA HG hn
            go_wp2_with (at_builtin; refine wpList_append_own _ rfl _ _ 22 rfl w.heap.size 5 i0 (.int .u8 0) 1 1 Tryd.underlying22 hi hz0 hz1 hz2 rfl (by decide) _ _ _ rfl (hown.alloc _) ⟨wr.heap.size, 0, none⟩ 3 3 [.int .u8 (X0.toNat : Int), .int .u8 (X1.toNat : Int), .int .u8 (X2.toNat : Int)] rfl rfl (three_cell _ _ _ _) (three_one _ _ _) (by unfold maxLen; omega) (by omega) (by simp; omega) ?_)
            intro v' w1 hown' hgrow _
            obtain ⟨g, cap, rfl, hcap⟩ : ∃ g cap, v' = .slice (some ⟨g, 0, none⟩) (acc.length + 3) cap ∧ acc.length + 3 ≤ cap := by
              rcases hown'.2 with ⟨_, h1⟩ | ⟨g, cap, cur, hv, _, _, hc, _⟩
              · omega
              · exact ⟨g, cap, hv, hc⟩
            have hbc : Lib.byteCells acc ++ [Value.int IntKind.u8 (X0.toNat : Int), .int IntKind.u8 (X1.toNat : Int), .int IntKind.u8 (X2.toNat : Int)] = Lib.byteCells (acc ++ [X0, X1, X2]) := by simp [Lib.byteCells]
            rw [hbc] at hown'
            have R := own_shrink (ys := acc ++ bytes3 n p) (m := acc.length + 3 - p) hown' (take_app acc [X0, X1, X2] (bytes3 n p) p HB3.out hp) (by omega)
            have hlen2 : (acc ++ bytes3 n p).length ≤ j + 4 := by
              rw [HB3.out, List.length_append, List.length_take]
              simp only [List.length_cons, List.length_nil]
              omega
            have hB1 := (hB.alloc hsz _).grown hgrow (by simp; omega) (fun k hk => (hown.lt k hk).1)
            have hcapi : (acc.length : Int) + 3 ≤ cap := by omega
            have hpi : (p : Int) ≤ 2 := by omega
            have HR : Hid (w1.ownsRow w.heap.size 5 1 (.slice (some ⟨g, 0, none⟩) (acc.length + 3 - p) cap) (acc ++ bytes3 n p).length (Lib.byteCells (acc ++ bytes3 n p))) := R
            clear hown' hgrow hown HO e0 a1 a2 e1 e2 R hbc
            go_wp2
            go_roundw
            case rel => exact ⟨j + 4, acc ++ bytes3 n p, by go_num, by omega, by omega, HP.out, hlen2, HR.out, hB1⟩
            case measure => simp [intOf]; omega
      · have hjs : s.data.toList.drop j = [] := dropE s j (by omega)
        have hpa : parseL s.data.toList = some acc := by
          rw [HA.out, hjs]
          simp [parseL]
        clear HA
        have hr := run_str_own (P := Tryd.prog) (src := 22) (dst := 9) Tryd.underlying22 Tryd.underlying5 Tryd.underlying9 hown
        obtain ⟨X, hX⟩ : ∃ X : ByteArray, (⟨acc.toArray⟩ : ByteArray) = X := ⟨_, rfl⟩
        have hXl : X.data.toList = acc := by rw [← hX]
        have hXs : X.size ≤ 1048576 := by rw [sz X, hXl]; omega
        have CE := fun w => cEncS X w hXs
        rw [hXl] at CE
        rw [hX] at hr
        have hq := bytes_eq (toL acc) s.data.toList s rfl
        obtain ⟨E, hE⟩ : ∃ E : ByteArray, (⟨(toL acc).toArray⟩ : ByteArray) = E := ⟨_, rfl⟩
        rw [hE] at CE hq
        have HOw : Hid (wr.ownsRow w.heap.size 5 1 u4 acc.length (Lib.byteCells acc)) := hown
        by_cases he : toL acc = s.data.toList
        · have HN : Hid (fromL s.data.toList = some X.data.toList) := by show fromL _ = _; rw [hXl]; exact (fromL_iff _ _).2 he
          rw [decide_eq_true he] at hq
          have hX2 := hX
          clear hpa he hE hX hXl hown hjs
          go_wp2_with fail
          refine (CE _).mono ?_
          rintro e w2 ⟨rfl, hb2⟩
          have hr2 := run_str_own (P := Tryd.prog) (src := 22) (dst := 9) Tryd.underlying22 Tryd.underlying5 Tryd.underlying9 (ownsRow_below HOw.out hb2)
          rw [hX2] at hr2
          go_wp2
          go_ret2
          exact ⟨by rw [HN.out]; rfl, hB.trans (hb2.mono hB.size)⟩
        · have HN : Hid (fromL s.data.toList = none) := by
            show fromL _ = _
            unfold fromL
            rw [hpa]
            simp [he]
          rw [decide_eq_false he] at hq
          clear hpa he hE hX hXl hown hjs
          go_wp2_with (go_at_call 13; refine (CE _).mono ?_; rintro e w2 ⟨rfl, hb2⟩)
          go_ret2
          exact ⟨by rw [HN.out]; rfl, hB.trans (hb2.mono hB.size)⟩
  · have hq0 : (((s.size : Int) % 4) != 0) = true := by simp; omega
    have HN : Hid (fromL s.data.toList = none) := from_len (by rw [← sz s]; exact hm4)
    go_enter Tryd.func12, Tryd.ntmps12
    go_wp2
    go_ret2
    exact ⟨by rw [HN.out]; rfl, Below.refl _ _⟩

end Go.Proofs.YtgnphekelklchaaDoor
