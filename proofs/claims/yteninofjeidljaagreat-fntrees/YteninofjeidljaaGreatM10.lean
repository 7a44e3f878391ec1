/- The reader of a letter in the program: contract of closing. The library contracts that the proofs lean on, laid at this program: a field a fact of the program, each contract one application. Contracts of the methods by which a sign is written: reference, itself, inText, inQuotes. Contracts of impl.readSign: what readL reads. -/
import Derived.Test.YteninofjeidljaaGreatM9
import Derived.Test.YteninofjeidljaaGreatProg
import Derived.Test.YteninofjeidljaaGreatRows
import Derived.Test.YteninofjeidljaaGreatM5
import Derived.Test.YteninofjeidljaaGreatM1
import Derived.WalkMore
import Derived.Shelf.Strings.Builder1
import Derived.Shelf.Strings.Prefix
import Derived.WalkKit
namespace Go.Proofs.YteninofjeidljaaGreat

open Go.RowKit

set_option linter.unusedVariables false

set_option linter.unusedSimpArgs false

theorem RdT.next {w w' : World} {B g : Nat} {s : ByteArray} {p p' m m' : Nat} {tx tx' : ByteArray} {v : Value} {es : List Tn.E} (h : RdT w B g s p m tx v es) (hr : Rdr w' g s p' m' tx' v) (hk : KeepB (fun k => k = g) w w') : RdT w' B g s p' m' tx' v es := ⟨hr, h.row.low hk h.lt, h.lt, Nat.le_trans h.le hk.size⟩

theorem RdT.below {w w' : World} {B g : Nat} {s : ByteArray} {p m : Nat} {tx : ByteArray} {v : Value} {es : List Tn.E} (h : RdT w B g s p m tx v es) (hb : Below w.heap.size w w') : RdT w' B g s p m tx v es := ⟨h.rdr.below hb, h.row.below hb, h.lt, Nat.le_trans h.le hb.size⟩

/-- Where the reader is, read off the world. -/
def rdAt (w : World) (g : Nat) : Nat := match w.cell? ⟨g, 1, none⟩ with | some (.int _ n) => n.toNat | _ => 0

theorem rdAt_is {w : World} {g : Nat} {s : ByteArray} {p m : Nat} {tx : ByteArray} {v : Value} (h : Rdr w g s p m tx v) : rdAt w g = p := by
  unfold rdAt
  rw [h.cells.1.2.1]
  rfl

/-- A name that ends at the next sign of that kind: what is known on the way. -/
structure ClSt (B g : Nat) (s : ByteArray) (p : Nat) (tx : ByteArray) (v : Value) (es : List Tn.E) (w : World) (q : Nat) (wr : World) : Prop where
  rdt : RdT wr B g s q p tx v es
  ge : p ≤ q
  le : q ≤ s.size
  no : ∀ i (hi : i < s.size), p ≤ i → i < q → ¬ s[i].toNat = 62
  bel : Below g w wr

/-- Where the next > stands. -/
def EndsAt (s : ByteArray) (p q : Nat) : Prop := p ≤ q ∧ (∃ h : q < s.size, s[q].toNat = 62) ∧ ∀ i (hi : i < s.size), p ≤ i → i < q → ¬ s[i].toNat = 62

def EndsNot (s : ByteArray) (p : Nat) : Prop := ∀ i (hi : i < s.size), p ≤ i → ¬ s[i].toNat = 62

/-- What closing answers. -/
def ClPost (B g : Nat) (s : ByteArray) (p : Nat) (tx : ByteArray) (es : List Tn.E) (w : World) (x : Ending) (w' : World) : Prop :=
  Below g w w' ∧ ((EndsNot s p ∧ x = .returned (.bool false)) ∨ ∃ q, EndsAt s p q ∧ x = .returned (.bool (decide (es.length + 1 ≤ 120) && tokB ⟨2, s.extract p q, [], ⟨#[]⟩⟩)) ∧ ∃ v', RdT w' B g s (q + 1) p tx v' (es ++ [⟨⟨2, s.extract p q, [], ⟨#[]⟩⟩, none, 0⟩]))

theorem ClPost.none {B g : Nat} {s : ByteArray} {p : Nat} {tx : ByteArray} {es : List Tn.E} {w w' : World} (h : EndsNot s p) (hb : Below g w w') : ClPost B g s p tx es w (.returned (.bool false)) w' := ⟨hb, .inl ⟨h, rfl⟩⟩

theorem ClPost.found {B g : Nat} {s : ByteArray} {p q : Nat} {tx X : ByteArray} {es : List Tn.E} {w w' : World} (h : EndsAt s p q) (hX : s.extract p q = X) (hr : ∃ v', RdT w' B g s (q + 1) p tx v' (es ++ [⟨⟨2, X, [], ⟨#[]⟩⟩, Option.none, 0⟩])) (hb : Below g w w') {TB : Bool} (hTB : (decide (es.length + 1 ≤ 120) && tokB ⟨2, X, [], ⟨#[]⟩⟩) = TB) : ClPost B g s p tx es w (.returned (.bool TB)) w' := by
  subst hTB
  subst hX
  exact ⟨hb, .inr ⟨q, h, rfl, hr⟩⟩

section

variable {B g : Nat} {s : ByteArray} {p : Nat} {tx : ByteArray} {v : Value} {es : List Tn.E} {w wr w' : World} {q : Nat}

theorem ClSt.found (h : ClSt B g s p tx v es w q wr) (hq : q < s.size) (h2 : s[q].toNat = 62) : EndsAt s p q := ⟨h.ge, ⟨hq, h2⟩, h.no⟩

theorem ClSt.none (h : ClSt B g s p tx v es w q wr) (hq : ¬ q < s.size) : EndsNot s p := fun i hi h1 => h.no i hi h1 (by omega)

theorem ClSt.more (h : ClSt B g s p tx v es w q wr) (hq : q < s.size) (h2 : ¬ s[q].toNat = 62) (hr : Rdr w' g s (q + 1) p tx v) (hk : KeepB (fun k => k = g) wr w') : ClSt B g s p tx v es w (q + 1) w' :=
  ⟨h.rdt.next hr hk, Nat.le_succ_of_le h.ge, hq, fun i hi h1 h3 => by
    rcases Nat.lt_or_eq_of_le (Nat.le_of_lt_succ h3) with h' | h'
    · exact h.no i hi h1 h'
    · subst h'; exact h2, h.bel.trans (hk.below (Nat.le_of_lt (lt_of_heap h.rdt.rdr.heap)) (fun k e => by rw [e]; exact Nat.le_refl _))⟩

theorem ClSt.less (h : ClSt B g s p tx v es w q wr) (h2 : ClSt B g s p tx v es w (q + 1) w') : s.size + 1 - rdAt w' g < s.size + 1 - rdAt wr g := by
  rw [rdAt_is h.rdt.rdr, rdAt_is h2.rdt.rdr]
  have := h2.le
  omega

end

set_option maxRecDepth 8000 in
set_option maxHeartbeats 8000000 in
theorem cClosing (B g : Nat) (s : ByteArray) (p m : Nat) (tx : ByteArray) (v : Value) (es : List Tn.E) (w : World) (h : RdT w B g s p m tx v es) (hp : p ≤ s.size) (hs : s.size ≤ 4000) (hn : es.length ≤ 1000) (h0 : ∀ i (hi : i < s.size), ¬ s[i].toNat = 0) :
    Calls Tryz.prog 145 #[.pointer (some ⟨g, 0, none⟩)] w (ClPost B g s p tx es w) := by
  have HT := hid h
  have CM := hid (cMark g s p m tx v w h.rdr)
  clear h
  go_enter Tryz.func145, Tryz.ntmps145
  go_wp2_with fail
  refine wp_scope_jumps 0 (fun a' w' => ∃ (q : Nat) (u3 u4 u5 u6 u7 u8 u9 u10 u11 u12 u13 u14 u15 : Value), a' = { tmps := #[.pointer (some ⟨g, 0, none⟩), undef, .bool false, u3, u4, u5, u6, u7, u8, u9, u10, u11, u12, u13, u14, u15], defers := [] } ∧ Hid (ClSt B g s p tx v es w q w')) (fun _ w' => s.size + 1 - rdAt w' g) rfl ?_ ?_
  · go_wp2_with fail
    refine CM.out.mono ?_
    rintro e w1 ⟨rfl, hr1, hk1⟩
    obtain ⟨q, hqp⟩ : ∃ q, q = p := ⟨_, rfl⟩
    have ST := hid (show ClSt B g s p tx v es w q w1 from ⟨by rw [hqp]; exact HT.out.next hr1 hk1, by omega, by omega, fun i hi h1 h2 => by omega, hk1.below (Nat.le_of_lt (lt_of_heap HT.out.rdr.heap)) (fun k e => by rw [e]; exact Nat.le_refl _)⟩)
    clear hr1 hk1 CM hqp
    go_wp2_with fail
    go_step3
    have CN := hid (cNext g s q p tx v w1 ST.out.rdt.rdr (by have := ST.out.le; omega) (by omega))
    go_wp2_with fail
    refine CN.out.mono ?_
    rintro e w2 ⟨rfl, hr2, hk2⟩
    have HR2 := hid hr2
    have HK2 := hid hk2
    clear hr2 hk2 CN
    by_cases hq : q < s.size
    · have HSG := hid (show sgnAt s q = s[q].toNat by unfold sgnAt; rw [dif_pos hq])
      have hz := h0 q hq
      have hb256 : s[q].toNat < 256 := s[q].toNat_lt
      rw [HSG.out]
      have hne0 : (((s[q].toNat : Nat) : Int) == 0) = false := by simp; omega
      by_cases h62 : s[q].toNat = 62
      · have heq : (((s[q].toNat : Nat) : Int) == 62) = true := by simp; omega
        have HE := hid (ST.out.found hq h62)
        have ST2 := hid (ST.out.rdt.next HR2.out HK2.out)
        have HB2 := hid (ST.out.bel.trans (HK2.out.below (Nat.le_of_lt (lt_of_heap ST.out.rdt.rdr.heap)) (fun k e => by rw [e]; exact Nat.le_refl _)))
        have CP := hid (cPiece g s (q + 1) p tx v w2 HR2.out (by have := ST.out.ge; omega) (by omega) (by omega))
        have HEX := hid (show pieceS s p (q + 1) = s.extract p q from rfl)
        rw [HEX.out] at CP
        generalize s[q].toNat = ch at *
        clear ST
        go_wp2_with fail
        refine CP.out.mono ?_
        rintro e w3 ⟨rfl, hb3⟩
        have ST3 := hid (ST2.out.below hb3)
        have HB3 := hid (HB2.out.trans (hb3.mono (Nat.le_of_lt (lt_of_heap HR2.out.heap))))
        have hpz : (s.extract p q).size ≤ 1048576 := by rw [ByteArray.size_extract]; omega
        have CAD := hid (cAdd B g s (q + 1) p tx v es ⟨⟨2, s.extract p q, [], ⟨#[]⟩⟩, none, 0⟩ w3 ST3.out ⟨fun h => absurd h (Nat.not_lt_zero _), fun g o h => absurd h (Nat.not_lt_zero _), fun x hx _ h => absurd h (Nat.not_lt_zero _)⟩ ⟨hpz, Nat.zero_le _, fun x hx => absurd hx List.not_mem_nil, Nat.zero_le _⟩ hn)
        simp only [tkV] at CAD
        have CAD := hid (show Calls Tryz.prog 167 #[.pointer (some ⟨g, 0, none⟩), .agg #[.int .i64 2, .string (s.extract p q), .slice none 0 0, .string ⟨#[]⟩]] w3 fun x w' => x = .returned (.bool (decide (es.length + 1 ≤ 120) && tokB ⟨2, s.extract p q, [], ⟨#[]⟩⟩)) ∧ (∃ v', RdT w' B g s (q + 1) p tx v' (es ++ [⟨⟨2, s.extract p q, [], ⟨#[]⟩⟩, none, 0⟩])) ∧ Below g w3 w' ∧ KeepB (fun k => k = g ∨ v.ownBlock = some k) w3 w' from CAD.out)
        clear hb3 CP
        generalize hEX : s.extract p q = X at *
        obtain ⟨TB, hTB⟩ : ∃ TB, (decide (es.length + 1 ≤ 120) && tokB ⟨2, X, [], ⟨#[]⟩⟩) = TB := ⟨_, rfl⟩
        rw [hTB] at CAD
        have HTB := hid hTB
        clear hTB
        go_wp2_with fail
        refine CAD.out.mono ?_
        rintro e w4 ⟨rfl, hx4, hb4, -⟩
        have HX4 := hid hx4
        have HB4 := hid (HB3.out.trans hb4)
        clear hx4 hb4 CAD
        go_wp2_with fail
        simp only [Exit.jump]
        go_ret
        exact ClPost.found HE.out hEX HX4.out HB4.out HTB.out
      · have hneq : (((s[q].toNat : Nat) : Int) == 62) = false := by simp; omega
        have STN := hid (ST.out.more hq h62 HR2.out HK2.out)
        have HMU := hid (ST.out.less STN.out)
        generalize s[q].toNat = ch at *
        clear ST
        go_wp2_with fail
        go_step3
        exact ⟨rfl, q + 1, _, _, _, _, _, _, _, _, _, _, _, _, _, rfl, STN.out⟩
    · have HE := hid (ST.out.none hq)
      have HSG := hid (show sgnAt s q = 0 by unfold sgnAt; rw [dif_neg hq])
      rw [HSG.out]
      have HB2 := hid (ST.out.bel.trans (HK2.out.below (Nat.le_of_lt (lt_of_heap ST.out.rdt.rdr.heap)) (fun k e => by rw [e]; exact Nat.le_refl _)))
      clear ST
      go_wp2_with fail
      simp only [Exit.jump]
      go_ret
      exact ClPost.none HE.out HB2.out
  · rintro a' w1 ⟨q, u3, u4, u5, u6, u7, u8, u9, u10, u11, u12, u13, u14, u15, rfl, ST⟩
    clear CM
    have CN := hid (cNext g s q p tx v w1 ST.out.rdt.rdr (by have := ST.out.le; omega) (by omega))
    go_wp2_with fail
    refine CN.out.mono ?_
    rintro e w2 ⟨rfl, hr2, hk2⟩
    have HR2 := hid hr2
    have HK2 := hid hk2
    clear hr2 hk2 CN
    by_cases hq : q < s.size
    · have HSG := hid (show sgnAt s q = s[q].toNat by unfold sgnAt; rw [dif_pos hq])
      have hz := h0 q hq
      have hb256 : s[q].toNat < 256 := s[q].toNat_lt
      rw [HSG.out]
      have hne0 : (((s[q].toNat : Nat) : Int) == 0) = false := by simp; omega
      by_cases h62 : s[q].toNat = 62
      · have heq : (((s[q].toNat : Nat) : Int) == 62) = true := by simp; omega
        have HE := hid (ST.out.found hq h62)
        have ST2 := hid (ST.out.rdt.next HR2.out HK2.out)
        have HB2 := hid (ST.out.bel.trans (HK2.out.below (Nat.le_of_lt (lt_of_heap ST.out.rdt.rdr.heap)) (fun k e => by rw [e]; exact Nat.le_refl _)))
        have CP := hid (cPiece g s (q + 1) p tx v w2 HR2.out (by have := ST.out.ge; omega) (by omega) (by omega))
        have HEX := hid (show pieceS s p (q + 1) = s.extract p q from rfl)
        rw [HEX.out] at CP
        generalize s[q].toNat = ch at *
        clear ST
        go_wp2_with fail
        refine CP.out.mono ?_
        rintro e w3 ⟨rfl, hb3⟩
        have ST3 := hid (ST2.out.below hb3)
        have HB3 := hid (HB2.out.trans (hb3.mono (Nat.le_of_lt (lt_of_heap HR2.out.heap))))
        have hpz : (s.extract p q).size ≤ 1048576 := by rw [ByteArray.size_extract]; omega
        have CAD := hid (cAdd B g s (q + 1) p tx v es ⟨⟨2, s.extract p q, [], ⟨#[]⟩⟩, none, 0⟩ w3 ST3.out ⟨fun h => absurd h (Nat.not_lt_zero _), fun g o h => absurd h (Nat.not_lt_zero _), fun x hx _ h => absurd h (Nat.not_lt_zero _)⟩ ⟨hpz, Nat.zero_le _, fun x hx => absurd hx List.not_mem_nil, Nat.zero_le _⟩ hn)
        simp only [tkV] at CAD
        have CAD := hid (show Calls Tryz.prog 167 #[.pointer (some ⟨g, 0, none⟩), .agg #[.int .i64 2, .string (s.extract p q), .slice none 0 0, .string ⟨#[]⟩]] w3 fun x w' => x = .returned (.bool (decide (es.length + 1 ≤ 120) && tokB ⟨2, s.extract p q, [], ⟨#[]⟩⟩)) ∧ (∃ v', RdT w' B g s (q + 1) p tx v' (es ++ [⟨⟨2, s.extract p q, [], ⟨#[]⟩⟩, none, 0⟩])) ∧ Below g w3 w' ∧ KeepB (fun k => k = g ∨ v.ownBlock = some k) w3 w' from CAD.out)
        clear hb3 CP
        generalize hEX : s.extract p q = X at *
        obtain ⟨TB, hTB⟩ : ∃ TB, (decide (es.length + 1 ≤ 120) && tokB ⟨2, X, [], ⟨#[]⟩⟩) = TB := ⟨_, rfl⟩
        rw [hTB] at CAD
        have HTB := hid hTB
        clear hTB
        go_wp2_with fail
        refine CAD.out.mono ?_
        rintro e w4 ⟨rfl, hx4, hb4, -⟩
        have HX4 := hid hx4
        have HB4 := hid (HB3.out.trans hb4)
        clear hx4 hb4 CAD
        go_wp2_with fail
        simp only [Exit.jump]
        go_ret
        exact ClPost.found HE.out hEX HX4.out HB4.out HTB.out
      · have hneq : (((s[q].toNat : Nat) : Int) == 62) = false := by simp; omega
        have STN := hid (ST.out.more hq h62 HR2.out HK2.out)
        have HMU := hid (ST.out.less STN.out)
        generalize s[q].toNat = ch at *
        clear ST
        go_wp2_with fail
        go_step3
        exact ⟨rfl, ⟨q + 1, _, _, _, _, _, _, _, _, _, _, _, _, _, rfl, STN.out⟩, HMU.out⟩
    · have HE := hid (ST.out.none hq)
      have HSG := hid (show sgnAt s q = 0 by unfold sgnAt; rw [dif_neg hq])
      rw [HSG.out]
      have HB2 := hid (ST.out.bel.trans (HK2.out.below (Nat.le_of_lt (lt_of_heap ST.out.rdt.rdr.heap)) (fun k e => by rw [e]; exact Nat.le_refl _)))
      clear ST
      go_wp2_with fail
      simp only [Exit.jump]
      go_ret
      exact ClPost.none HE.out HB2.out

end Go.Proofs.YteninofjeidljaaGreat

namespace Go.Proofs

open Go.Shelf

def Tryz.lays169_ren : Go.Shelf.Ren := ⟨fun | 169 => 33 | n => n, fun | 70 => 45 | 9 => 9 | 0 => 0 | 72 => 47 | 37 => 22 | 127 => 120 | 3 => 3 | 5 => 5 | n => n, fun | n => n⟩

theorem Tryz.lays169 : Go.Proofs.Lays.n169 Tryz.prog Tryz.lays169_ren := {
  mixed := by kernel_rfl
  f169 := Tryz.func33.trans (congrArg some (by kernel_rfl))
  t0 := Tryz.underlying0
  a0 := Tryz.isAgg0
  z0 := Tryz.sizeOf0
  v0 := Tryz.zeroValue0
  t3 := Tryz.underlying3
  a3 := Tryz.isAgg3
  z3 := Tryz.sizeOf3
  v3 := Tryz.zeroValue3
  t9 := Tryz.underlying9
  a9 := Tryz.isAgg9
  z9 := Tryz.sizeOf9
  v9 := Tryz.zeroValue9
  t37 := Tryz.underlying22
  a37 := Tryz.isAgg22
  z37 := Tryz.sizeOf22
  v37 := Tryz.zeroValue22
  t70 := Tryz.underlying45
  a70 := Tryz.isAgg45
  z70 := Tryz.sizeOf45
  v70 := Tryz.zeroValue45
  t72 := Tryz.underlying47
  a72 := Tryz.isAgg47
  z72 := Tryz.sizeOf47
  v72 := Tryz.zeroValue47
  t127 := Tryz.underlying120
  a127 := Tryz.isAgg120
  z127 := Tryz.sizeOf120
  v127 := Tryz.zeroValue120 }

theorem Tryz.Builder_Extra_169 : Builder.Extra Tryz.prog Tryz.lays169_ren := {
  sizeBuilder := by kernel_rfl
  liesBuilder := by kernel_rfl
  t5 := Tryz.underlying5
  a5 := Tryz.isAgg5
  z5 := Tryz.sizeOf5
  v5 := Tryz.zeroValue5
  infoByte := by kernel_rfl
  cellsByte := by kernel_rfl
  sizeByte := by kernel_rfl
  neB5 := by decide }

open Go.RowKit in
theorem Tryz.Builder_String_any (B b : Nat) (l : List UInt8) (w : World) (h : Lib.IsBuilder 47 5 B b (Lib.byteCells l) w) (hBw : B ≤ w.heap.size) :
    Calls Tryz.prog 33 #[.pointer (some ⟨b, 0, none⟩)] w fun e w' => e = .returned (.string ⟨l.toArray⟩) ∧ Below B w w' := Any.Builder_String_any Tryz.lays169 Tryz.Builder_Extra_169 B b l w h hBw

def Tryz.lays99_ren : Go.Shelf.Ren := ⟨fun | 99 => 206 | 206 => 215 | n => n, fun | 9 => 9 | 4 => 4 | 3 => 3 | n => n, fun | n => n⟩

theorem Tryz.lays99 : Go.Proofs.Lays.n99 Tryz.prog Tryz.lays99_ren := {
  mixed := by kernel_rfl
  f99 := Tryz.func206.trans (congrArg some (by kernel_rfl))
  f206 := Tryz.func215.trans (congrArg some (by kernel_rfl))
  t3 := Tryz.underlying3
  a3 := Tryz.isAgg3
  z3 := Tryz.sizeOf3
  v3 := Tryz.zeroValue3
  t4 := Tryz.underlying4
  a4 := Tryz.isAgg4
  z4 := Tryz.sizeOf4
  v4 := Tryz.zeroValue4
  t9 := Tryz.underlying9
  a9 := Tryz.isAgg9
  z9 := Tryz.sizeOf9
  v9 := Tryz.zeroValue9 }

open Go.RowKit Go.Lib in
theorem Tryz.strings_HasPrefix (s p : ByteArray) (w : World) :
    Calls Tryz.prog 206 #[.string s, .string p] w fun e w' => e = .returned (.bool (Lib.hasPrefix s.data.toList p.data.toList)) ∧ w' = w := Any.strings_HasPrefix Tryz.lays99 s p w

end Go.Proofs

namespace Go.Proofs.YteninofjeidljaaGreat

open Go.RowKit

theorem c__impl_sign__reference_amp (b : UInt8) (w : World) (h0 : (b.toNat : Int) ≤ 38) (h1 : (38 : Int) ≤ b.toNat) :
    Calls Tryz.prog 164 #[.int .u8 b.toNat] w fun e w' => e = .returned (.string ⟨#[38, 97, 109, 112, 59]⟩) ∧ w' = w := by
  go_enter Tryz.func164, Tryz.ntmps164
  go_wp2
  go_ret
  exact ⟨rfl, rfl⟩

theorem c__impl_sign__reference_lt (b : UInt8) (w : World) (h0 : (b.toNat : Int) ≤ 60) (h1 : (60 : Int) ≤ b.toNat) :
    Calls Tryz.prog 164 #[.int .u8 b.toNat] w fun e w' => e = .returned (.string ⟨#[38, 108, 116, 59]⟩) ∧ w' = w := by
  go_enter Tryz.func164, Tryz.ntmps164
  go_wp2
  go_ret
  exact ⟨rfl, rfl⟩

theorem c__impl_sign__reference_gt (b : UInt8) (w : World) (h0 : (b.toNat : Int) ≤ 62) (h1 : (62 : Int) ≤ b.toNat) :
    Calls Tryz.prog 164 #[.int .u8 b.toNat] w fun e w' => e = .returned (.string ⟨#[38, 103, 116, 59]⟩) ∧ w' = w := by
  go_enter Tryz.func164, Tryz.ntmps164
  go_wp2
  go_ret
  exact ⟨rfl, rfl⟩

theorem c__impl_sign__reference_quot (b : UInt8) (w : World) (h0 : (b.toNat : Int) ≤ 34) (h1 : (34 : Int) ≤ b.toNat) :
    Calls Tryz.prog 164 #[.int .u8 b.toNat] w fun e w' => e = .returned (.string ⟨#[38, 113, 117, 111, 116, 59]⟩) ∧ w' = w := by
  go_enter Tryz.func164, Tryz.ntmps164
  go_wp2
  go_ret
  exact ⟨rfl, rfl⟩

theorem c__impl_sign__reference_no (b : UInt8) (w : World) (h0 : ¬ (b.toNat : Int) = 38) (h1 : ¬ (b.toNat : Int) = 60) (h2 : ¬ (b.toNat : Int) = 62) (h3 : ¬ (b.toNat : Int) = 34) :
    Calls Tryz.prog 164 #[.int .u8 b.toNat] w fun e w' => e = .returned (.string ⟨#[]⟩) ∧ w' = w := by
  go_enter Tryz.func164, Tryz.ntmps164
  go_wp2
  go_ret
  exact ⟨rfl, rfl⟩

theorem c__impl_sign__itself (b : UInt8) (w : World) :
    Calls Tryz.prog 132 #[.int .u8 b.toNat] w fun e w' => e = .returned (.string ⟨#[b]⟩) ∧ Below w.heap.size w w' := by
  have hown : (w.alloc (.cells #[.int .u8 b.toNat] 5)).ownsRow 0 5 1 (.slice (some ⟨w.heap.size, 0, none⟩) [b].length 1) [b].length (Lib.byteCells [b]) :=
    ⟨rfl, .inr ⟨w.heap.size, 1, #[.int .u8 b.toNat], rfl, Nat.zero_le _, heap_alloc_new w _, Nat.le_refl _, by decide, rfl, rfl⟩⟩
  have hrun := run_str_own (P := Tryz.prog) (src := 22) (dst := 9) Tryz.underlying22 Tryz.underlying5 Tryz.underlying9 hown
  have hr : (convert 22 9 (.slice (some ⟨w.heap.size, 0, none⟩) 1 1)).run Tryz.prog (w.alloc (.cells #[.int .u8 b.toNat] 5)) = .ok (.string ⟨#[b]⟩) (w.alloc (.cells #[.int .u8 b.toNat] 5)) := hrun
  clear hown hrun
  go_enter Tryz.func132, Tryz.ntmps132
  go_wp2
  go_ret
  exact ⟨rfl, (Below.refl _ _).alloc (Nat.le_refl _) _⟩

theorem c__impl_sign__itself_34 (w : World) : Calls Tryz.prog 132 #[.int .u8 34] w fun e w' => e = .returned (.string ⟨#[34]⟩) ∧ Below w.heap.size w w' := c__impl_sign__itself 34 w

theorem c__impl_sign__itself_62 (w : World) : Calls Tryz.prog 132 #[.int .u8 62] w fun e w' => e = .returned (.string ⟨#[62]⟩) ∧ Below w.heap.size w w' := c__impl_sign__itself 62 w

theorem c__impl_sign__inText (b : UInt8) (w : World) :
    Calls Tryz.prog 133 #[.int .u8 b.toNat] w fun e w' => e = .returned (.string ⟨(escB false b).toArray⟩) ∧ Below w.heap.size w w' := by
  have cases : (b.toNat : Int) = 38 ∨ (b.toNat : Int) = 60 ∨ (b.toNat : Int) = 62 ∨ (b.toNat : Int) = 34 ∨ (¬ (b.toNat : Int) = 38 ∧ ¬ (b.toNat : Int) = 60 ∧ ¬ (b.toNat : Int) = 62 ∧ ¬ (b.toNat : Int) = 34) := by omega
  rcases cases with h | h | h | h | ⟨h0, h1, h2, h3⟩
  · have e : escB false b = [38, 97, 109, 112, 59] := by unfold escB; rw [if_pos (by omega)]
    have g0 : (b.toNat : Int) ≤ 38 := by omega
    have g1 : (38 : Int) ≤ b.toNat := by omega
    rw [e]; clear e h
    go_enter Tryz.func133, Tryz.ntmps133
    go_wp2_with (go_at_call 164; refine (c__impl_sign__reference_amp b _ g0 g1).mono ?_; rintro e w' ⟨rfl, rfl⟩)
    go_ret
    exact ⟨rfl, Below.refl _ _⟩
  · have e : escB false b = [38, 108, 116, 59] := by unfold escB; rw [if_neg (by omega), if_pos (by omega)]
    have g0 : (b.toNat : Int) ≤ 60 := by omega
    have g1 : (60 : Int) ≤ b.toNat := by omega
    rw [e]; clear e h
    go_enter Tryz.func133, Tryz.ntmps133
    go_wp2_with (go_at_call 164; refine (c__impl_sign__reference_lt b _ g0 g1).mono ?_; rintro e w' ⟨rfl, rfl⟩)
    go_ret
    exact ⟨rfl, Below.refl _ _⟩
  · have e : escB false b = [38, 103, 116, 59] := by unfold escB; rw [if_neg (by omega), if_neg (by omega), if_pos (by omega)]; rfl
    have g0 : (b.toNat : Int) ≤ 62 := by omega
    have g1 : (62 : Int) ≤ b.toNat := by omega
    rw [e]; clear e h
    go_enter Tryz.func133, Tryz.ntmps133
    go_wp2_with (go_at_call 164; refine (c__impl_sign__reference_gt b _ g0 g1).mono ?_; rintro e w' ⟨rfl, rfl⟩)
    go_ret
    exact ⟨rfl, Below.refl _ _⟩
  · have e : escB false b = [b] := by unfold escB; rw [if_neg (by omega), if_neg (by omega), if_neg (by omega), if_pos (by omega)]; rfl
    rw [e]; clear e
    obtain rfl : b = 34 := UInt8.toNat_inj.1 (show b.toNat = 34 by omega)
    clear h
    go_enter Tryz.func133, Tryz.ntmps133
    go_wp2_with (go_at_call 132; refine (c__impl_sign__itself_34 _).mono ?_; rintro e w' ⟨rfl, hb⟩)
    go_ret
    exact ⟨rfl, hb⟩
  · have e : escB false b = [b] := by unfold escB; rw [if_neg (by omega), if_neg (by omega), if_neg (by omega), if_neg (by omega)]
    rw [e]; clear e
    go_enter Tryz.func133, Tryz.ntmps133
    go_wp2_with (first | (go_at_call 164; refine (c__impl_sign__reference_no b _ h0 h1 h2 h3).mono ?_; rintro e w' ⟨rfl, rfl⟩) | (go_at_call 132; refine (c__impl_sign__itself b _).mono ?_; rintro e w' ⟨rfl, hb⟩))
    go_ret
    exact ⟨rfl, hb⟩

theorem c__impl_sign__inQuotes (b : UInt8) (w : World) :
    Calls Tryz.prog 134 #[.int .u8 b.toNat] w fun e w' => e = .returned (.string ⟨(escB true b).toArray⟩) ∧ Below w.heap.size w w' := by
  have cases : (b.toNat : Int) = 38 ∨ (b.toNat : Int) = 60 ∨ (b.toNat : Int) = 62 ∨ (b.toNat : Int) = 34 ∨ (¬ (b.toNat : Int) = 38 ∧ ¬ (b.toNat : Int) = 60 ∧ ¬ (b.toNat : Int) = 62 ∧ ¬ (b.toNat : Int) = 34) := by omega
  rcases cases with h | h | h | h | ⟨h0, h1, h2, h3⟩
  · have e : escB true b = [38, 97, 109, 112, 59] := by unfold escB; rw [if_pos (by omega)]
    have g0 : (b.toNat : Int) ≤ 38 := by omega
    have g1 : (38 : Int) ≤ b.toNat := by omega
    rw [e]; clear e h
    go_enter Tryz.func134, Tryz.ntmps134
    go_wp2_with (go_at_call 164; refine (c__impl_sign__reference_amp b _ g0 g1).mono ?_; rintro e w' ⟨rfl, rfl⟩)
    go_ret
    exact ⟨rfl, Below.refl _ _⟩
  · have e : escB true b = [38, 108, 116, 59] := by unfold escB; rw [if_neg (by omega), if_pos (by omega)]
    have g0 : (b.toNat : Int) ≤ 60 := by omega
    have g1 : (60 : Int) ≤ b.toNat := by omega
    rw [e]; clear e h
    go_enter Tryz.func134, Tryz.ntmps134
    go_wp2_with (go_at_call 164; refine (c__impl_sign__reference_lt b _ g0 g1).mono ?_; rintro e w' ⟨rfl, rfl⟩)
    go_ret
    exact ⟨rfl, Below.refl _ _⟩
  · have e : escB true b = [b] := by unfold escB; rw [if_neg (by omega), if_neg (by omega), if_pos (by omega)]; rfl
    rw [e]; clear e
    obtain rfl : b = 62 := UInt8.toNat_inj.1 (show b.toNat = 62 by omega)
    clear h
    go_enter Tryz.func134, Tryz.ntmps134
    go_wp2_with (go_at_call 132; refine (c__impl_sign__itself_62 _).mono ?_; rintro e w' ⟨rfl, hb⟩)
    go_ret
    exact ⟨rfl, hb⟩
  · have e : escB true b = [38, 113, 117, 111, 116, 59] := by unfold escB; rw [if_neg (by omega), if_neg (by omega), if_neg (by omega), if_pos (by omega)]; rfl
    have g0 : (b.toNat : Int) ≤ 34 := by omega
    have g1 : (34 : Int) ≤ b.toNat := by omega
    rw [e]; clear e h
    go_enter Tryz.func134, Tryz.ntmps134
    go_wp2_with (go_at_call 164; refine (c__impl_sign__reference_quot b _ g0 g1).mono ?_; rintro e w' ⟨rfl, rfl⟩)
    go_ret
    exact ⟨rfl, Below.refl _ _⟩
  · have e : escB true b = [b] := by unfold escB; rw [if_neg (by omega), if_neg (by omega), if_neg (by omega), if_neg (by omega)]
    rw [e]; clear e
    go_enter Tryz.func134, Tryz.ntmps134
    go_wp2_with (first | (go_at_call 164; refine (c__impl_sign__reference_no b _ h0 h1 h2 h3).mono ?_; rintro e w' ⟨rfl, rfl⟩) | (go_at_call 132; refine (c__impl_sign__itself b _).mono ?_; rintro e w' ⟨rfl, hb⟩))
    go_ret
    exact ⟨rfl, hb⟩

end Go.Proofs.YteninofjeidljaaGreat

namespace Go.Proofs.YteninofjeidljaaGreat

open Go.RowKit

set_option linter.unusedVariables false

set_option linter.unusedSimpArgs false

theorem r38 (w : World) : Calls Tryz.prog 164 #[.int .u8 38] w fun e w' => e = .returned (.string ⟨#[38, 97, 109, 112, 59]⟩) ∧ w' = w := c__impl_sign__reference_amp 38 w (by decide) (by decide)

theorem hp_amp (t : ByteArray) (b : Bool) (h : amp.isPrefixOf t.data.toList = b) (w : World) : Calls Tryz.prog 206 #[.string t, .string ⟨#[38, 97, 109, 112, 59]⟩] w fun e w' => e = .returned (.bool b) ∧ w' = w := by
  refine (Tryz.strings_HasPrefix t ⟨#[38, 97, 109, 112, 59]⟩ w).mono ?_
  rintro e w' ⟨rfl, rfl⟩
  exact ⟨by rw [← h]; rfl, rfl⟩

theorem r60 (w : World) : Calls Tryz.prog 164 #[.int .u8 60] w fun e w' => e = .returned (.string ⟨#[38, 108, 116, 59]⟩) ∧ w' = w := c__impl_sign__reference_lt 60 w (by decide) (by decide)

theorem hp_lt (t : ByteArray) (b : Bool) (h : lt.isPrefixOf t.data.toList = b) (w : World) : Calls Tryz.prog 206 #[.string t, .string ⟨#[38, 108, 116, 59]⟩] w fun e w' => e = .returned (.bool b) ∧ w' = w := by
  refine (Tryz.strings_HasPrefix t ⟨#[38, 108, 116, 59]⟩ w).mono ?_
  rintro e w' ⟨rfl, rfl⟩
  exact ⟨by rw [← h]; rfl, rfl⟩

theorem r62 (w : World) : Calls Tryz.prog 164 #[.int .u8 62] w fun e w' => e = .returned (.string ⟨#[38, 103, 116, 59]⟩) ∧ w' = w := c__impl_sign__reference_gt 62 w (by decide) (by decide)

theorem hp_gt (t : ByteArray) (b : Bool) (h : gt.isPrefixOf t.data.toList = b) (w : World) : Calls Tryz.prog 206 #[.string t, .string ⟨#[38, 103, 116, 59]⟩] w fun e w' => e = .returned (.bool b) ∧ w' = w := by
  refine (Tryz.strings_HasPrefix t ⟨#[38, 103, 116, 59]⟩ w).mono ?_
  rintro e w' ⟨rfl, rfl⟩
  exact ⟨by rw [← h]; rfl, rfl⟩

theorem r34 (w : World) : Calls Tryz.prog 164 #[.int .u8 34] w fun e w' => e = .returned (.string ⟨#[38, 113, 117, 111, 116, 59]⟩) ∧ w' = w := c__impl_sign__reference_quot 34 w (by decide) (by decide)

theorem hp_quot (t : ByteArray) (b : Bool) (h : quot.isPrefixOf t.data.toList = b) (w : World) : Calls Tryz.prog 206 #[.string t, .string ⟨#[38, 113, 117, 111, 116, 59]⟩] w fun e w' => e = .returned (.bool b) ∧ w' = w := by
  refine (Tryz.strings_HasPrefix t ⟨#[38, 113, 117, 111, 116, 59]⟩ w).mono ?_
  rintro e w' ⟨rfl, rfl⟩
  exact ⟨by rw [← h]; rfl, rfl⟩

def meas (v : Value) : Nat := 4 - (intOf v).toNat

set_option maxRecDepth 100000 in
theorem c_impl_readSign_plain (t : ByteArray) (w : World) (ht : 0 < t.size) (hm : t.size ≤ 9223372036854775807) (h : ¬ (t[0].toNat : Int) = 38) :
    Calls Tryz.prog 181 #[.string t] w fun e w' => e = .returned (.tuple #[.int .u8 t[0].toNat, .int .i64 1]) ∧ w' = w := by
  go_enter Tryz.func181, Tryz.ntmps181
  go_wp2
  go_ret2
  exact ⟨rfl, rfl⟩

set_option maxRecDepth 100000 in
set_option maxHeartbeats 1000000 in
theorem c_impl_readSign_amp (t : ByteArray) (w : World) (ht : 0 < t.size) (hm : t.size ≤ 9223372036854775807) (g0 : (t[0].toNat : Int) ≤ 38) (g1 : (38 : Int) ≤ t[0].toNat) (P0 : amp.isPrefixOf t.data.toList = true) :
    Calls Tryz.prog 181 #[.string t] w fun e w' => e = .returned (.tuple #[.int .u8 38, .int .i64 5]) ∧ w' = w := by
  have Q0 : Hid (amp.isPrefixOf t.data.toList = true) := P0
  clear P0
  have i0 : ∀ w, (Instr.index 225 (.agg #[.int .u8 38, .int .u8 60, .int .u8 62, .int .u8 34]) (.int .i64 0)).run Tryz.prog w = .ok (.int .u8 38) w := fun _ => by kernel_rfl
  have hb : ((t[0].toNat : Int) != 38) = false := by simp; omega
  clear g0 g1
  go_enter Tryz.func181, Tryz.ntmps181
  go_wp2
  go_loopw [13] (fun i wr => ∃ k : Nat, k ≤ 0 ∧ i = .int .i64 k ∧ wr = w) (fun i _ => meas i)
  case atStart => exact ⟨0, Nat.zero_le _, rfl, rfl⟩
  case round =>
    obtain ⟨k, hk, rfl, hwr⟩ := hrel
    obtain rfl := hwr.symm
    rcases (show k = 0 from by omega) with rfl
    · go_wp2_with (first | (go_at_call 164; refine (r38 _).mono ?_; rintro e w1 ⟨rfl, hw1⟩; obtain rfl := hw1.symm) | (go_at_call 206; refine (hp_amp t _ Q0.out _).mono ?_; rintro e w1 ⟨rfl, hw1⟩; obtain rfl := hw1.symm))
      go_ret2
      exact ⟨rfl, rfl⟩

set_option maxRecDepth 100000 in
set_option maxHeartbeats 1000000 in
theorem c_impl_readSign_lt (t : ByteArray) (w : World) (ht : 0 < t.size) (hm : t.size ≤ 9223372036854775807) (g0 : (t[0].toNat : Int) ≤ 38) (g1 : (38 : Int) ≤ t[0].toNat) (P0 : amp.isPrefixOf t.data.toList = false) (P1 : lt.isPrefixOf t.data.toList = true) :
    Calls Tryz.prog 181 #[.string t] w fun e w' => e = .returned (.tuple #[.int .u8 60, .int .i64 4]) ∧ w' = w := by
  have Q0 : Hid (amp.isPrefixOf t.data.toList = false) := P0
  have Q1 : Hid (lt.isPrefixOf t.data.toList = true) := P1
  clear P0 P1
  have i0 : ∀ w, (Instr.index 225 (.agg #[.int .u8 38, .int .u8 60, .int .u8 62, .int .u8 34]) (.int .i64 0)).run Tryz.prog w = .ok (.int .u8 38) w := fun _ => by kernel_rfl
  have i1 : ∀ w, (Instr.index 225 (.agg #[.int .u8 38, .int .u8 60, .int .u8 62, .int .u8 34]) (.int .i64 1)).run Tryz.prog w = .ok (.int .u8 60) w := fun _ => by kernel_rfl
  have hb : ((t[0].toNat : Int) != 38) = false := by simp; omega
  clear g0 g1
  go_enter Tryz.func181, Tryz.ntmps181
  go_wp2
  go_loopw [13] (fun i wr => ∃ k : Nat, k ≤ 1 ∧ i = .int .i64 k ∧ wr = w) (fun i _ => meas i)
  case atStart => exact ⟨0, Nat.zero_le _, rfl, rfl⟩
  case round =>
    obtain ⟨k, hk, rfl, hwr⟩ := hrel
    obtain rfl := hwr.symm
    rcases (show k = 0 ∨ k = 1 from by omega) with rfl | rfl
    · go_wp2_with (first | (go_at_call 164; refine (r38 _).mono ?_; rintro e w1 ⟨rfl, hw1⟩; obtain rfl := hw1.symm) | (go_at_call 206; refine (hp_amp t _ Q0.out _).mono ?_; rintro e w1 ⟨rfl, hw1⟩; obtain rfl := hw1.symm))
      go_roundw
      case rel => exact ⟨1, by omega, by go_num, trivial⟩
      case measure => simp [meas, intOf]
    · go_wp2_with (first | (go_at_call 164; refine (r60 _).mono ?_; rintro e w1 ⟨rfl, hw1⟩; obtain rfl := hw1.symm) | (go_at_call 206; refine (hp_lt t _ Q1.out _).mono ?_; rintro e w1 ⟨rfl, hw1⟩; obtain rfl := hw1.symm))
      go_ret2
      exact ⟨rfl, rfl⟩

set_option maxRecDepth 100000 in
set_option maxHeartbeats 1000000 in
theorem c_impl_readSign_gt (t : ByteArray) (w : World) (ht : 0 < t.size) (hm : t.size ≤ 9223372036854775807) (g0 : (t[0].toNat : Int) ≤ 38) (g1 : (38 : Int) ≤ t[0].toNat) (P0 : amp.isPrefixOf t.data.toList = false) (P1 : lt.isPrefixOf t.data.toList = false) (P2 : gt.isPrefixOf t.data.toList = true) :
    Calls Tryz.prog 181 #[.string t] w fun e w' => e = .returned (.tuple #[.int .u8 62, .int .i64 4]) ∧ w' = w := by
  have Q0 : Hid (amp.isPrefixOf t.data.toList = false) := P0
  have Q1 : Hid (lt.isPrefixOf t.data.toList = false) := P1
  have Q2 : Hid (gt.isPrefixOf t.data.toList = true) := P2
  clear P0 P1 P2
  have i0 : ∀ w, (Instr.index 225 (.agg #[.int .u8 38, .int .u8 60, .int .u8 62, .int .u8 34]) (.int .i64 0)).run Tryz.prog w = .ok (.int .u8 38) w := fun _ => by kernel_rfl
  have i1 : ∀ w, (Instr.index 225 (.agg #[.int .u8 38, .int .u8 60, .int .u8 62, .int .u8 34]) (.int .i64 1)).run Tryz.prog w = .ok (.int .u8 60) w := fun _ => by kernel_rfl
  have i2 : ∀ w, (Instr.index 225 (.agg #[.int .u8 38, .int .u8 60, .int .u8 62, .int .u8 34]) (.int .i64 2)).run Tryz.prog w = .ok (.int .u8 62) w := fun _ => by kernel_rfl
  have hb : ((t[0].toNat : Int) != 38) = false := by simp; omega
  clear g0 g1
  go_enter Tryz.func181, Tryz.ntmps181
  go_wp2
  go_loopw [13] (fun i wr => ∃ k : Nat, k ≤ 2 ∧ i = .int .i64 k ∧ wr = w) (fun i _ => meas i)
  case atStart => exact ⟨0, Nat.zero_le _, rfl, rfl⟩
  case round =>
    obtain ⟨k, hk, rfl, hwr⟩ := hrel
    obtain rfl := hwr.symm
    rcases (show k = 0 ∨ k = 1 ∨ k = 2 from by omega) with rfl | rfl | rfl
    · go_wp2_with (first | (go_at_call 164; refine (r38 _).mono ?_; rintro e w1 ⟨rfl, hw1⟩; obtain rfl := hw1.symm) | (go_at_call 206; refine (hp_amp t _ Q0.out _).mono ?_; rintro e w1 ⟨rfl, hw1⟩; obtain rfl := hw1.symm))
      go_roundw
      case rel => exact ⟨1, by omega, by go_num, trivial⟩
      case measure => simp [meas, intOf]
    · go_wp2_with (first | (go_at_call 164; refine (r60 _).mono ?_; rintro e w1 ⟨rfl, hw1⟩; obtain rfl := hw1.symm) | (go_at_call 206; refine (hp_lt t _ Q1.out _).mono ?_; rintro e w1 ⟨rfl, hw1⟩; obtain rfl := hw1.symm))
      go_roundw
      case rel => exact ⟨2, by omega, by go_num, trivial⟩
      case measure => simp [meas, intOf]
    · go_wp2_with (first | (go_at_call 164; refine (r62 _).mono ?_; rintro e w1 ⟨rfl, hw1⟩; obtain rfl := hw1.symm) | (go_at_call 206; refine (hp_gt t _ Q2.out _).mono ?_; rintro e w1 ⟨rfl, hw1⟩; obtain rfl := hw1.symm))
      go_ret2
      exact ⟨rfl, rfl⟩

set_option maxRecDepth 100000 in
set_option maxHeartbeats 1000000 in
theorem c_impl_readSign_quot (t : ByteArray) (w : World) (ht : 0 < t.size) (hm : t.size ≤ 9223372036854775807) (g0 : (t[0].toNat : Int) ≤ 38) (g1 : (38 : Int) ≤ t[0].toNat) (P0 : amp.isPrefixOf t.data.toList = false) (P1 : lt.isPrefixOf t.data.toList = false) (P2 : gt.isPrefixOf t.data.toList = false) (P3 : quot.isPrefixOf t.data.toList = true) :
    Calls Tryz.prog 181 #[.string t] w fun e w' => e = .returned (.tuple #[.int .u8 34, .int .i64 6]) ∧ w' = w := by
  have Q0 : Hid (amp.isPrefixOf t.data.toList = false) := P0
  have Q1 : Hid (lt.isPrefixOf t.data.toList = false) := P1
  have Q2 : Hid (gt.isPrefixOf t.data.toList = false) := P2
  have Q3 : Hid (quot.isPrefixOf t.data.toList = true) := P3
  clear P0 P1 P2 P3
  have i0 : ∀ w, (Instr.index 225 (.agg #[.int .u8 38, .int .u8 60, .int .u8 62, .int .u8 34]) (.int .i64 0)).run Tryz.prog w = .ok (.int .u8 38) w := fun _ => by kernel_rfl
  have i1 : ∀ w, (Instr.index 225 (.agg #[.int .u8 38, .int .u8 60, .int .u8 62, .int .u8 34]) (.int .i64 1)).run Tryz.prog w = .ok (.int .u8 60) w := fun _ => by kernel_rfl
  have i2 : ∀ w, (Instr.index 225 (.agg #[.int .u8 38, .int .u8 60, .int .u8 62, .int .u8 34]) (.int .i64 2)).run Tryz.prog w = .ok (.int .u8 62) w := fun _ => by kernel_rfl
  have i3 : ∀ w, (Instr.index 225 (.agg #[.int .u8 38, .int .u8 60, .int .u8 62, .int .u8 34]) (.int .i64 3)).run Tryz.prog w = .ok (.int .u8 34) w := fun _ => by kernel_rfl
  have hb : ((t[0].toNat : Int) != 38) = false := by simp; omega
  clear g0 g1
  go_enter Tryz.func181, Tryz.ntmps181
  go_wp2
  go_loopw [13] (fun i wr => ∃ k : Nat, k ≤ 3 ∧ i = .int .i64 k ∧ wr = w) (fun i _ => meas i)
  case atStart => exact ⟨0, Nat.zero_le _, rfl, rfl⟩
  case round =>
    obtain ⟨k, hk, rfl, hwr⟩ := hrel
    obtain rfl := hwr.symm
    rcases (show k = 0 ∨ k = 1 ∨ k = 2 ∨ k = 3 from by omega) with rfl | rfl | rfl | rfl
    · go_wp2_with (first | (go_at_call 164; refine (r38 _).mono ?_; rintro e w1 ⟨rfl, hw1⟩; obtain rfl := hw1.symm) | (go_at_call 206; refine (hp_amp t _ Q0.out _).mono ?_; rintro e w1 ⟨rfl, hw1⟩; obtain rfl := hw1.symm))
      go_roundw
      case rel => exact ⟨1, by omega, by go_num, trivial⟩
      case measure => simp [meas, intOf]
    · go_wp2_with (first | (go_at_call 164; refine (r60 _).mono ?_; rintro e w1 ⟨rfl, hw1⟩; obtain rfl := hw1.symm) | (go_at_call 206; refine (hp_lt t _ Q1.out _).mono ?_; rintro e w1 ⟨rfl, hw1⟩; obtain rfl := hw1.symm))
      go_roundw
      case rel => exact ⟨2, by omega, by go_num, trivial⟩
      case measure => simp [meas, intOf]
    · go_wp2_with (first | (go_at_call 164; refine (r62 _).mono ?_; rintro e w1 ⟨rfl, hw1⟩; obtain rfl := hw1.symm) | (go_at_call 206; refine (hp_gt t _ Q2.out _).mono ?_; rintro e w1 ⟨rfl, hw1⟩; obtain rfl := hw1.symm))
      go_roundw
      case rel => exact ⟨3, by omega, by go_num, trivial⟩
      case measure => simp [meas, intOf]
    · go_wp2_with (first | (go_at_call 164; refine (r34 _).mono ?_; rintro e w1 ⟨rfl, hw1⟩; obtain rfl := hw1.symm) | (go_at_call 206; refine (hp_quot t _ Q3.out _).mono ?_; rintro e w1 ⟨rfl, hw1⟩; obtain rfl := hw1.symm))
      go_ret2
      exact ⟨rfl, rfl⟩

set_option maxRecDepth 100000 in
set_option maxHeartbeats 1000000 in
theorem c_impl_readSign_none (t : ByteArray) (w : World) (ht : 0 < t.size) (hm : t.size ≤ 9223372036854775807) (g0 : (t[0].toNat : Int) ≤ 38) (g1 : (38 : Int) ≤ t[0].toNat) (P0 : amp.isPrefixOf t.data.toList = false) (P1 : lt.isPrefixOf t.data.toList = false) (P2 : gt.isPrefixOf t.data.toList = false) (P3 : quot.isPrefixOf t.data.toList = false) :
    Calls Tryz.prog 181 #[.string t] w fun e w' => e = .returned (.tuple #[.int .u8 0, .int .i64 0]) ∧ w' = w := by
  have Q0 : Hid (amp.isPrefixOf t.data.toList = false) := P0
  have Q1 : Hid (lt.isPrefixOf t.data.toList = false) := P1
  have Q2 : Hid (gt.isPrefixOf t.data.toList = false) := P2
  have Q3 : Hid (quot.isPrefixOf t.data.toList = false) := P3
  clear P0 P1 P2 P3
  have i0 : ∀ w, (Instr.index 225 (.agg #[.int .u8 38, .int .u8 60, .int .u8 62, .int .u8 34]) (.int .i64 0)).run Tryz.prog w = .ok (.int .u8 38) w := fun _ => by kernel_rfl
  have i1 : ∀ w, (Instr.index 225 (.agg #[.int .u8 38, .int .u8 60, .int .u8 62, .int .u8 34]) (.int .i64 1)).run Tryz.prog w = .ok (.int .u8 60) w := fun _ => by kernel_rfl
  have i2 : ∀ w, (Instr.index 225 (.agg #[.int .u8 38, .int .u8 60, .int .u8 62, .int .u8 34]) (.int .i64 2)).run Tryz.prog w = .ok (.int .u8 62) w := fun _ => by kernel_rfl
  have i3 : ∀ w, (Instr.index 225 (.agg #[.int .u8 38, .int .u8 60, .int .u8 62, .int .u8 34]) (.int .i64 3)).run Tryz.prog w = .ok (.int .u8 34) w := fun _ => by kernel_rfl
  have hb : ((t[0].toNat : Int) != 38) = false := by simp; omega
  clear g0 g1
  go_enter Tryz.func181, Tryz.ntmps181
  go_wp2
  go_loopw [13] (fun i wr => ∃ k : Nat, k ≤ 4 ∧ i = .int .i64 k ∧ wr = w) (fun i _ => meas i)
  case atStart => exact ⟨0, Nat.zero_le _, rfl, rfl⟩
  case round =>
    obtain ⟨k, hk, rfl, hwr⟩ := hrel
    obtain rfl := hwr.symm
    rcases (show k = 0 ∨ k = 1 ∨ k = 2 ∨ k = 3 ∨ k = 4 from by omega) with rfl | rfl | rfl | rfl | rfl
    · go_wp2_with (first | (go_at_call 164; refine (r38 _).mono ?_; rintro e w1 ⟨rfl, hw1⟩; obtain rfl := hw1.symm) | (go_at_call 206; refine (hp_amp t _ Q0.out _).mono ?_; rintro e w1 ⟨rfl, hw1⟩; obtain rfl := hw1.symm))
      go_roundw
      case rel => exact ⟨1, by omega, by go_num, trivial⟩
      case measure => simp [meas, intOf]
    · go_wp2_with (first | (go_at_call 164; refine (r60 _).mono ?_; rintro e w1 ⟨rfl, hw1⟩; obtain rfl := hw1.symm) | (go_at_call 206; refine (hp_lt t _ Q1.out _).mono ?_; rintro e w1 ⟨rfl, hw1⟩; obtain rfl := hw1.symm))
      go_roundw
      case rel => exact ⟨2, by omega, by go_num, trivial⟩
      case measure => simp [meas, intOf]
    · go_wp2_with (first | (go_at_call 164; refine (r62 _).mono ?_; rintro e w1 ⟨rfl, hw1⟩; obtain rfl := hw1.symm) | (go_at_call 206; refine (hp_gt t _ Q2.out _).mono ?_; rintro e w1 ⟨rfl, hw1⟩; obtain rfl := hw1.symm))
      go_roundw
      case rel => exact ⟨3, by omega, by go_num, trivial⟩
      case measure => simp [meas, intOf]
    · go_wp2_with (first | (go_at_call 164; refine (r34 _).mono ?_; rintro e w1 ⟨rfl, hw1⟩; obtain rfl := hw1.symm) | (go_at_call 206; refine (hp_quot t _ Q3.out _).mono ?_; rintro e w1 ⟨rfl, hw1⟩; obtain rfl := hw1.symm))
      go_roundw
      case rel => exact ⟨4, by omega, by go_num, trivial⟩
      case measure => simp [meas, intOf]
    · go_wp2
      go_ret2
      exact ⟨rfl, rfl⟩

set_option maxRecDepth 100000 in
theorem c_impl_readSign_some (t : ByteArray) (w : World) (ht : 0 < t.size) (hm : t.size ≤ 9223372036854775807) (x : UInt8) (k : Nat) (h : readL t.data.toList = some (x, k)) :
    Calls Tryz.prog 181 #[.string t] w fun e w' => e = .returned (.tuple #[.int .u8 x.toNat, .int .i64 k]) ∧ w' = w := by
  have hd : ∃ r, t.data.toList = t[0] :: r := by
    have hl : 0 < t.data.toList.length := ht
    cases hh : t.data.toList with
    | nil => rw [hh] at hl; simp at hl
    | cons c r =>
      have : t[0] = c := by
        have e : t[0] = t.data.toList[0] := rfl
        rw [e]; simp [hh]
      exact ⟨r, by rw [this]⟩
  obtain ⟨r, hr⟩ := hd
  by_cases hc : (t[0].toNat : Int) = 38
  · have g0 : (t[0].toNat : Int) ≤ 38 := by omega
    have g1 : (38 : Int) ≤ t[0].toNat := by omega
    cases P0 : amp.isPrefixOf t.data.toList with
    | true =>
      rw [readL_amp _ P0] at h; simp at h; obtain ⟨rfl, rfl⟩ := h
      exact c_impl_readSign_amp t w ht hm g0 g1 P0
    | false =>
      cases P1 : lt.isPrefixOf t.data.toList with
      | true =>
        rw [readL_lt _ P0 P1] at h; simp at h; obtain ⟨rfl, rfl⟩ := h
        exact c_impl_readSign_lt t w ht hm g0 g1 P0 P1
      | false =>
        cases P2 : gt.isPrefixOf t.data.toList with
        | true =>
          rw [readL_gt _ P0 P1 P2] at h; simp at h; obtain ⟨rfl, rfl⟩ := h
          exact c_impl_readSign_gt t w ht hm g0 g1 P0 P1 P2
        | false =>
          cases P3 : quot.isPrefixOf t.data.toList with
          | true =>
            rw [readL_quot _ P0 P1 P2 P3] at h; simp at h; obtain ⟨rfl, rfl⟩ := h
            exact c_impl_readSign_quot t w ht hm g0 g1 P0 P1 P2 P3
          | false =>
            rw [hr] at h P0 P1 P2 P3
            rw [readL_none _ _ (by omega) P0 P1 P2 P3] at h
            simp at h
  · rw [hr, readL_plain _ _ (by omega)] at h
    simp at h; obtain ⟨rfl, rfl⟩ := h
    exact c_impl_readSign_plain t w ht hm hc

set_option maxRecDepth 100000 in
theorem c_impl_readSign_no (t : ByteArray) (w : World) (ht : 0 < t.size) (hm : t.size ≤ 9223372036854775807) (h : readL t.data.toList = none) :
    Calls Tryz.prog 181 #[.string t] w fun e w' => e = .returned (.tuple #[.int .u8 0, .int .i64 0]) ∧ w' = w := by
  have hd : ∃ r, t.data.toList = t[0] :: r := by
    have hl : 0 < t.data.toList.length := ht
    cases hh : t.data.toList with
    | nil => rw [hh] at hl; simp at hl
    | cons c r =>
      have : t[0] = c := by
        have e : t[0] = t.data.toList[0] := rfl
        rw [e]; simp [hh]
      exact ⟨r, by rw [this]⟩
  obtain ⟨r, hr⟩ := hd
  by_cases hc : (t[0].toNat : Int) = 38
  · have g0 : (t[0].toNat : Int) ≤ 38 := by omega
    have g1 : (38 : Int) ≤ t[0].toNat := by omega
    cases P0 : amp.isPrefixOf t.data.toList with
    | true => rw [readL_amp _ P0] at h; simp at h
    | false =>
      cases P1 : lt.isPrefixOf t.data.toList with
      | true => rw [readL_lt _ P0 P1] at h; simp at h
      | false =>
        cases P2 : gt.isPrefixOf t.data.toList with
        | true => rw [readL_gt _ P0 P1 P2] at h; simp at h
        | false =>
          cases P3 : quot.isPrefixOf t.data.toList with
          | true => rw [readL_quot _ P0 P1 P2 P3] at h; simp at h
          | false => exact c_impl_readSign_none t w ht hm g0 g1 P0 P1 P2 P3
  · rw [hr, readL_plain _ _ (by omega)] at h
    simp at h

end Go.Proofs.YteninofjeidljaaGreat
