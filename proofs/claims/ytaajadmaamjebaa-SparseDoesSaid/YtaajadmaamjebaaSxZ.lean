/- The walks of the laws of sparse, out of the contracts of the landed code (its last text is called SsY: newIdx, idxNil). -/
import Derived.Test.YtaajadmaamjebaaSsY
import Derived.Test.YtaajadmaamjebaaSxB
import Derived.Test.YtaajadmaamjebaaSxC
import Derived.Test.YtaajadmaamjebaaSxE
import Derived.Test.YtaajadmaamjebaaSxQ
namespace Go.Proofs.Ytaajadmaamjebaa

theorem sawake : AwakeS := awakeS_of newIdx
theorem wfS_u8 {i : Int} (h : (Lit.int .u8 i).wf = true) : 0 ≤ i ∧ i < 256 := by
  have h2 : 0 ≤ i ∧ i ≤ 255 := by simpa [Lit.wf, IntKind.min, IntKind.max, IntKind.signed, IntKind.bits] using h
  omega
theorem wfS_u16 {i : Int} (h : (Lit.int .u16 i).wf = true) : 0 ≤ i ∧ i < 65536 := by
  have h2 : 0 ≤ i ∧ i ≤ 65535 := by simpa [Lit.wf, IntKind.min, IntKind.max, IntKind.signed, IntKind.bits] using h
  omega
theorem walk_sparseDoes (w : World) (per : Int) (wp : (Lit.int .i64 per).wf = true) (most : Int) (wm : (Lit.int .i64 most).wf = true) (v : Value) (l : List AcS) (hv : AcsAt l v w) (_ : l.length ≤ maxLen) :
    Calls Try.prog 3 #[.int .i64 per, .int .i64 most, v] w (LawPost w) := sparseDoes_of newIdx sawake per most wp wm l v w hv
theorem walk_sparseNewest (w : World) (p : Int) (wp : (Lit.int .u8 p).wf = true) (m : Int) (wm : (Lit.int .u16 m).wf = true) (v : Value) (l : List AcS) (hv : AcsAt l v w) (_ : l.length ≤ maxLen) (man : Int) (wn : (Lit.int .u32 man).wf = true) (vh : Value) (ls : List (List UInt8)) (hh : FpsAt 32 ls vh w) (_ : ls.length ≤ maxLen) :
    Calls Try.prog 4 #[.int .u8 p, .int .u16 m, v, .int .u32 man, vh] w (LawPost w) := by
  have h1 := wfS_u8 wp
  have h2 := wfS_u16 wm
  have h3 := wfS_u32 wn
  obtain ⟨p, rfl⟩ := Int.eq_ofNat_of_zero_le h1.1
  obtain ⟨m, rfl⟩ := Int.eq_ofNat_of_zero_le h2.1
  obtain ⟨man, rfl⟩ := Int.eq_ofNat_of_zero_le h3.1
  exact sparseNewest_of newIdx sawake p (by omega) m (by omega) l v man (by omega) ls vh w hv hh
theorem walk_sparseNobody (man : Int) (wn : (Lit.int .u32 man).wf = true) (h : List UInt8) (h32 : h.length = 32) (w : World) :
    Calls Try.prog 5 #[.int .u32 man, .agg (fpA h)] w (LawPost w) := by
  have h3 := wfS_u32 wn
  obtain ⟨man, rfl⟩ := Int.eq_ofNat_of_zero_le h3.1
  exact sparseNobody_of idxNil sawake man (by omega) h h32 w

end Go.Proofs.Ytaajadmaamjebaa
