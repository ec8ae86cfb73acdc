/- What the library's tables hold when a call begins; and that the program's start meets it. -/
import Derived.Test.YtmobkjdncfdokaaDoorRows
import Derived.Test.YtmobkjdncfdokaaDoorShelf
import Derived.ProofKit
import Derived.LaidMore
import Derived.OpenShut
import Derived.Stop.Joined
import Derived.Stop.LaidErr
import Derived.Lib.LaidU8
import Derived.Lib.LaidTab
import Derived.WalkSmall
namespace Go.Proofs.YtmobkjdncfdokaaDoor
open Go.ChangeShapes Go.WideShapes Go.ChangeAt Go.RowKit

theorem laidOwn : ownKnob Tryd.prog.godebug = none := by kernel_rfl

/-- The list of the rows' variables. -/
def laidTab : List (String × DataW Unit) := [("math/bits.deBruijn32tab", Rows.laid_math_bits_deBruijn32tab), ("math/bits.deBruijn64tab", Rows.laid_math_bits_deBruijn64tab), ("internal/strconv.uint64pow10", Rows.laid_internal_strconv_uint64pow10), ("unicode/utf8.acceptRanges", Rows.laid_unicode_utf8_acceptRanges), ("strconv.ErrRange", Rows.laid_strconv_ErrRange), ("strconv.ErrSyntax", Rows.laid_strconv_ErrSyntax), ("unicode/utf8.first", Rows.laid_unicode_utf8_first)]

/-- The library's tables, as its contracts want them. -/
def TabAt (w : World) : Prop :=
  Lib.TabIs Tryd.prog w "internal/strconv.uint64pow10" .u64 Lib.pow10Tab ∧ Lib.Utf8Tabs 5 6 w ∧ (∃ tp p, w.var? Tryd.prog "strconv.ErrSyntax" = some #[.iface tp p]) ∧ ∃ tp p, w.var? Tryd.prog "strconv.ErrRange" = some #[.iface tp p]

theorem pow_data : (Rows.laid_internal_strconv_uint64pow10 : DataW Unit) = Lib.tabData .u64 Lib.pow10Tab := by rfl
theorem acc_data : (Rows.laid_unicode_utf8_acceptRanges : DataW Unit) = Lib.acceptData := by kernel_rfl
theorem first_data : Rows.laid_unicode_utf8_first = Lib.firstData := by kernel_rfl

theorem starES : "*" ++ "errors.errorString" = "*errors.errorString" := by decide
theorem rowES (u : TypeId) (h : Tryd.prog.typeName? 3 u = some "*errors.errorString") : u = 115 :=
  typeName_ptr_named (nm := "errors.errorString") (by rw [starES]; kernel_rfl) (by kernel_rfl) (by decide) u (by rw [starES]; exact h)

theorem gSyn : Tryd.prog.globalNamed "strconv.ErrSyntax" = some 2 := by kernel_rfl
theorem gRan : Tryd.prog.globalNamed "strconv.ErrRange" = some 3 := by kernel_rfl
theorem gPow : Tryd.prog.globalNamed "internal/strconv.uint64pow10" = some 4 := by kernel_rfl
theorem tPow : (Tryd.prog.globals[4]?).map (·.type) = some 104 := by kernel_rfl
theorem cU64 : Tryd.prog.cellsOf 67 = 1 := by kernel_rfl
theorem cPow : Tryd.prog.cellsOf 104 = 20 := by kernel_rfl
theorem cES : Tryd.prog.cellsOf 117 = 1 := by kernel_rfl
theorem cStr : Tryd.prog.cellsOf 9 = 1 := by kernel_rfl

set_option maxRecDepth 100000 in
theorem of_laid {W : World} (h : laidMetH Tryd.prog laidTab W) : TabAt W := by
  rw [MakeChecks.laidMetH_plain _ _ _ (by kernel_rfl)] at h
  have h' : laidMet Tryd.prog laidTab W := h
  refine ⟨?_, ?_, ?_, ?_⟩
  · have hr := Lib.laidMet.reads h' (n := "internal/strconv.uint64pow10") (d := Rows.laid_internal_strconv_uint64pow10) (by simp [laidTab])
    rw [pow_data] at hr
    obtain ⟨g, t, cs, fuel, p, hg, hty, hvar, hd⟩ := hr
    obtain rfl := Option.some.inj (gPow.symm.trans hg)
    obtain rfl := Option.some.inj (tPow.symm.trans hty)
    have hcs := Lib.cells_of_tab Tryd.underlying104 Tryd.underlying67 cU64 cPow hd
    unfold Lib.TabIs
    rw [hvar, ← hcs]
  · have h3 := Lib.laidMet.reads h' (n := "unicode/utf8.first") (d := Rows.laid_unicode_utf8_first) (by simp [laidTab])
    have h4 := Lib.laidMet.reads h' (n := "unicode/utf8.acceptRanges") (d := Rows.laid_unicode_utf8_acceptRanges) (by simp [laidTab])
    rw [first_data] at h3
    rw [acc_data] at h4
    exact utf8Tabs_of_reads (ρ := Tryd.lays271_ren) { Tryd.lays271 with } ⟨by kernel_rfl, by kernel_rfl, by kernel_rfl, by kernel_rfl, by kernel_rfl, by kernel_rfl, by kernel_rfl⟩ h3 h4
  · obtain ⟨a, s, hv, _⟩ := laid_sentinel (g := 2) h'.tail.tail.tail.tail.tail gSyn (by kernel_rfl) Tryd.underlying49 rowES Tryd.underlying115 Tryd.underlying117 rfl rfl Tryd.underlying9 cES cStr
    exact ⟨_, _, hv⟩
  · obtain ⟨a, s, hv, _⟩ := laid_sentinel (g := 3) h'.tail.tail.tail.tail gRan (by kernel_rfl) Tryd.underlying49 rowES Tryd.underlying115 Tryd.underlying117 rfl rfl Tryd.underlying9 cES cStr
    exact ⟨_, _, hv⟩

theorem var_later {w w' : World} {n : String} {g : Nat} {cs : Array Value} {v : Value} (hg : Tryd.prog.globalNamed n = some g) (h : w.var? Tryd.prog n = some cs) (h0 : cs[0]? = some v) (hb : Below w.heap.size w w') : w'.var? Tryd.prog n = some cs :=
  var?_below hb hg (World.block_lt_of_cell? _ _ ((World.var?_cell hg h 0).trans h0)) h

theorem TabAt.later {w w' : World} (h : TabAt w) (hb : Below w.heap.size w w') : TabAt w' := by
  obtain ⟨h1, h2, ⟨tp, p, h3⟩, tq, q, h4⟩ := h
  exact ⟨var_later gPow h1 rfl hb, Utf8Tabs_below h2 hb, ⟨tp, p, var_later gSyn h3 rfl hb⟩, tq, q, var_later gRan h4 rfl hb⟩

end Go.Proofs.YtmobkjdncfdokaaDoor
