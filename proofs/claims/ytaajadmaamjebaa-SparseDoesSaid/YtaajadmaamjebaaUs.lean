/- Slices of numbers of 32 bits. -/
import Derived.Test.YtaajadmaamjebaaRows
import Derived.Test.YtaajadmaamjebaaRws
namespace Go.Proofs.Ytaajadmaamjebaa
open Go.RowKit

def uL (m : Nat) : List Value := [.int .u32 (m : Nat)]
def wfU (m : Nat) : Prop := m < 4294967296
theorem encU : Enc uL 1 wfU := ⟨fun _ _ => rfl, fun p _ x hx => by
  simp only [uL, List.mem_cons, List.not_mem_nil, or_false] at hx
  rw [hx]; rfl, by decide⟩
abbrev UsAt (l : List Nat) (v : Value) (w : World) : Prop := RowsAt uL 1 wfU l v w
theorem UsAt.one_ {l : List Nat} {v : Value} {w : World} (h : UsAt l v w) : v.oneCell' = true := by
  obtain ⟨p, c, rfl, _⟩ := h.out encU
  rfl
theorem info_u32 : (Try.prog.info? 33).map (fun i => (i.zero, i.size, i.bytes)) = some (some (.int .u32 0), 1, 4) := by kernel_rfl

end Go.Proofs.Ytaajadmaamjebaa
