/- The walks of the six laws of box, out of the contracts of the landed code. -/
import Derived.Test.YtdmbebafpamgfaaDoorBxY
import Derived.Test.YtdmbebafpamgfaaDoorBxP
namespace Go.Proofs.YtdmbebafpamgfaaDoor

theorem wfX_u32 {n : Int} (h : (Lit.int .u32 n).wf = true) : 0 ≤ n ∧ n ≤ 4294967295 := by
  simpa [Lit.wf, IntKind.min, IntKind.max, IntKind.signed, IntKind.bits] using h
theorem wfX_u16 {n : Int} (h : (Lit.int .u16 n).wf = true) : 0 ≤ n ∧ n ≤ 65535 := by
  simpa [Lit.wf, IntKind.min, IntKind.max, IntKind.signed, IntKind.bits] using h
theorem wfX_u8 {n : Int} (h : (Lit.int .u8 n).wf = true) : 0 ≤ n ∧ n ≤ 255 := by
  simpa [Lit.wf, IntKind.min, IntKind.max, IntKind.signed, IntKind.bits] using h
theorem bawake : AwakeB := bawake_of buildOkB headOkB whereOkB sizeOkB
theorem walk_boxBuilds (w : World) (id : Int) (wid : (Lit.int .u32 id).wf = true) (v : Value) (ss : List ByteArray) (hv : StrAt ss v w) (_ : ss.length ≤ maxLen ∧ ∀ s ∈ ss, s.size ≤ maxLen) (hT : TabAt w) :
    Calls Tryd.prog 3 #[.int .u32 id, v] w (LawPost w) := by
  have h := wfX_u32 wid
  obtain ⟨i, rfl⟩ := Int.eq_ofNat_of_zero_le h.1
  exact boxBuilds_of checkOkB buildOkB headOkB chunksOkB bawake i (by omega) ss v w hv hT
theorem walk_boxHeads (s : ByteArray) (_ : s.size ≤ maxLen) (k : Int) (hk : (Lit.int .i64 k).wf = true) (w : World) (hT : TabAt w) :
    Calls Tryd.prog 4 #[.string s, .int .i64 k] w (LawPost w) := boxHeads_of headOkB chunkOkB chunksOkB bawake s k hk w hT
theorem walk_boxOnce (s : ByteArray) (_ : s.size ≤ maxLen) (w : World) (hT : TabAt w) :
    Calls Tryd.prog 5 #[.string s] w (LawPost w) := boxOnce_of buildOkB headOkB chunksOkB bawake s w hT
theorem walk_boxBuilders (w : World) (id : Int) (wid : (Lit.int .u32 id).wf = true) (sl : Int) (wsl : (Lit.int .i64 sl).wf = true) (by_ : Int) (wby : (Lit.int .i64 by_).wf = true) (v : Value) (ss : List ByteArray) (hv : StrAt ss v w) (_ : ss.length ≤ maxLen ∧ ∀ s ∈ ss, s.size ≤ maxLen)
    (k : Int) (hk : (Lit.int .i64 k).wf = true) (hT : TabAt w) :
    Calls Tryd.prog 6 #[.int .u32 id, .int .i64 sl, .int .i64 by_, v, .int .i64 k] w (LawPost w) := by
  have h := wfX_u32 wid
  obtain ⟨i, rfl⟩ := Int.eq_ofNat_of_zero_le h.1
  exact boxBuilders_of newOkB bawake i (by omega) sl by_ wsl wby ss v k hk w hv hT
theorem walk_boxBursts (w : World) (id : Int) (wid : (Lit.int .u32 id).wf = true) (v : Value) (ss : List ByteArray) (hv : StrAt ss v w) (_ : ss.length ≤ maxLen ∧ ∀ s ∈ ss, s.size ≤ maxLen) (sl : Int) (wsl : (Lit.int .u8 sl).wf = true) (at0 : Int) (wat : (Lit.int .u16 at0).wf = true)
    (bi : Int) (wbi : (Lit.int .u32 bi).wf = true) (hT : TabAt w) :
    Calls Tryd.prog 7 #[.int .u32 id, v, .int .u8 sl, .int .u16 at0, .int .u32 bi] w (LawPost w) := by
  have h1 := wfX_u32 wid
  have h2 := wfX_u8 wsl
  have h3 := wfX_u16 wat
  have h4 := wfX_u32 wbi
  obtain ⟨i, rfl⟩ := Int.eq_ofNat_of_zero_le h1.1
  obtain ⟨q, rfl⟩ := Int.eq_ofNat_of_zero_le h2.1
  obtain ⟨a, rfl⟩ := Int.eq_ofNat_of_zero_le h3.1
  obtain ⟨b, rfl⟩ := Int.eq_ofNat_of_zero_le h4.1
  exact boxBursts_of checkOkB chunkOkB bawake i (by omega) ss v q (by omega) a (by omega) b (by omega) w hv hT
theorem walk_boxNobody (c : ByteArray) (hc : c.size ≤ maxLen) (k : Int) (hk : (Lit.int .i64 k).wf = true) (w : World) (hT : TabAt w) :
    Calls Tryd.prog 8 #[.string c, .int .i64 k] w (LawPost w) := boxNobody_of nilOkB bawake c hc k hk w hT

end Go.Proofs.YtdmbebafpamgfaaDoor
