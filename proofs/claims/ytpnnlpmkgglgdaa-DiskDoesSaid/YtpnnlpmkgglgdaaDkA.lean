/- A disk's contract, whatever it is made of; the statements' same, out of it. -/
import Derived.Test.YtpnnlpmkgglgdaaDkX
namespace Go.Proofs.Ytpnnlpmkgglgdaa
open Go.RowKit

/-- What a call that changes a disk leaves. -/
def DPost (P : Dk → (Nat → Prop) → World → Prop) (Bs : Nat → Prop) (s' : Dk) (ret : Value) (w : World) (e : Ending) (w' : World) : Prop :=
  e = .returned ret ∧ (∃ Bs', P s' Bs' w' ∧ ∀ k, Bs' k → Bs k ∨ w.heap.size ≤ k) ∧ ButBy Bs w w'

/-- What a disk is to keep, for some predicate on its state and its blocks. -/
structure DiskOk (B : Nat) (x : Value) (P : Dk → (Nat → Prop) → World → Prop) : Prop where
  above : ∀ s Bs w, P s Bs w → ∀ k, Bs k → B ≤ k ∧ k < w.heap.size
  stay : ∀ s Bs w w', P s Bs w → w.heap.size ≤ w'.heap.size → (∀ k, Bs k → w'.heap[k]? = w.heap[k]?) → P s Bs w'
  len : ∀ s Bs w, P s Bs w → s.ok → Calls Try.prog 18 #[x] w fun e w' => e = .returned (.int .i64 (s.stands.length : Nat)) ∧ Below w.heap.size w w'
  down : ∀ s Bs w, P s Bs w → Calls Try.prog 17 #[x] w fun e w' => e = .returned (.bool s.down) ∧ Below w.heap.size w w'
  waits : ∀ s Bs w, P s Bs w → Calls Try.prog 15 #[x] w fun e w' => e = .returned (.int .i64 (s.waits.length : Nat)) ∧ Below w.heap.size w w'
  ops : ∀ s Bs w, P s Bs w → Calls Try.prog 16 #[x] w fun e w' => e = .returned (.int .i64 (s.ops : Nat)) ∧ Below w.heap.size w w'
  image : ∀ s Bs w, P s Bs w → s.ok → Calls Try.prog 14 #[x] w fun e w' => e = .returned (.string (str s.image)) ∧ Below w.heap.size w w'
  read : ∀ s Bs w (i : Int), P s Bs w → s.ok → s.ops ≤ 4294967296 → (Lit.int .i64 i).wf = true → Calls Try.prog 19 #[x, .int .i64 i] w fun e w' => e = .returned (.tuple #[.string (str (s.readT i)), .int .i64 (s.readE i)]) ∧ Below w.heap.size w w'
  write : ∀ s Bs w (i : Int) (t : ByteArray), P s Bs w → s.ok → s.ops ≤ 4294967295 → (Lit.int .i64 i).wf = true → t.size ≤ maxLen → Calls Try.prog 20 #[x, .int .i64 i, .string t] w (DPost P Bs (s.writeS i t.data.toList) (.int .i64 (s.writeE i t.data.toList)) w)
  flush : ∀ s Bs w, P s Bs w → s.ok → s.ops ≤ 4294967295 → Calls Try.prog 22 #[x] w (DPost P Bs s.flushS (.int .i64 s.flushE) w)
  fuse : ∀ s Bs w (n : Int), P s Bs w → (Lit.int .i64 n).wf = true → Calls Try.prog 24 #[x, .int .i64 n] w (DPost P Bs { s with fuse := n } (.tuple #[]) w)
  power : ∀ s Bs w (l : List Bool) (kv : Value), P s Bs w → s.ok → s.ops ≤ 4294967296 → (∀ w', w.heap.size ≤ w'.heap.size → (∀ k, k < B → k < w.heap.size → w'.heap[k]? = w.heap[k]?) → BoolAt l kv w') → Calls Try.prog 23 #[x, kv] w (DPost P Bs (s.powerS l) (.tuple #[]) w)
  spoil : ∀ s Bs w (i : Int) (t : ByteArray), P s Bs w → s.ok → (Lit.int .i64 i).wf = true → t.size ≤ maxLen → Calls Try.prog 25 #[x, .int .i64 i, .string t] w (DPost P Bs (s.spoilS i t.data.toList) (.int .i64 (s.spoilE i t.data.toList)) w)

/-- New, Load: a disk of its own, or none. -/
def NewDisk : Prop := ∀ (n : Int) w, Calls Try.prog 7 #[.int .i64 n] w fun e w' => Below w.heap.size w w' ∧
  ((¬ (1 ≤ n ∧ n ≤ 8192) ∧ e = .returned (.tuple #[.pointer none, .int .i64 5])) ∨
   ((1 ≤ n ∧ n ≤ 8192) ∧ ∃ ad P Bs, e = .returned (.tuple #[.pointer (some ad), .int .i64 0]) ∧ DiskOk w.heap.size (.pointer (some ad)) P ∧ P (Dk.new n.toNat) Bs w'))
def LoadDisk : Prop := ∀ (t : ByteArray), t.size ≤ maxLen → ∀ w, Calls Try.prog 12 #[.string t] w fun e w' => Below w.heap.size w w' ∧
  ((¬ loadOk t.data.toList ∧ e = .returned (.tuple #[.pointer none, .int .i64 1])) ∨
   (loadOk t.data.toList ∧ ∃ ad P Bs, e = .returned (.tuple #[.pointer (some ad), .int .i64 0]) ∧ DiskOk w.heap.size (.pointer (some ad)) P ∧ P (Dk.load t.data.toList) Bs w'))

theorem DiskOk.kept {B : Nat} {x : Value} {P : Dk → (Nat → Prop) → World → Prop} (D : DiskOk B x P) {s : Dk} {Bs : Nat → Prop} {w w' : World} (h : P s Bs w) (k : Kept w w') : P s Bs w' :=
  D.stay s Bs w w' h k.size (fun j hj => k.block j (D.above s Bs w h j hj).2)

set_option maxRecDepth 100000 in
set_option maxHeartbeats 4000000 in
/-- Both tell the same. -/
theorem dsame_of {B Br : Nat} {x : Value} {P : Dk → (Nat → Prop) → World → Prop} (D : DiskOk B x P) {s : Dk} {Bs : Nat → Prop} {g : Nat} {vs vw : Value} {w : World} (hd : P s Bs w) (hr : RAt Br g s vs vw w) (hok : s.ok) :
    Calls Try.prog 11 #[x, .pointer (some ⟨g, 0, none⟩)] w fun e w' => e = .returned (.bool true) ∧ Below w.heap.size w w' := by
  have CL := fun W (h : Kept w W) => Calls.kept_of h (D.len s Bs W (D.kept hd h) hok)
  have CD := fun W (h : Kept w W) => Calls.kept_of h (D.down s Bs W (D.kept hd h))
  have CW := fun W (h : Kept w W) => Calls.kept_of h (D.waits s Bs W (D.kept hd h))
  have CO := fun W (h : Kept w W) => Calls.kept_of h (D.ops s Bs W (D.kept hd h))
  have CI := fun W (h : Kept w W) => Calls.kept_of h (D.image s Bs W (D.kept hd h) hok)
  have CR : ∀ W, Kept w W → Calls Try.prog 33 #[.pointer (some ⟨g, 0, none⟩)] W fun e w' => e = .returned (.string (str s.image)) ∧ Kept w w' := fun W h => (rimage_any (hr.kept h) hok).mono fun e w' ⟨a, b⟩ => ⟨a, b ▸ h⟩
  obtain ⟨ps, cs, hvs, -, -⟩ := own_slice hr.st
  obtain ⟨pw, cw, hvw, -, -⟩ := own_slice hr.wt
  have h0 : w.cell? ⟨g, 0, none⟩ = some vs := hr.cell 0 _ rfl
  have h1 : w.cell? ⟨g, 1, none⟩ = some vw := hr.cell 1 _ rfl
  have H3 : Hid (w.cell? ⟨g, 3, none⟩ = some (.int .i64 (s.ops : Nat))) := hr.cell 3 _ rfl
  have H4 : Hid (w.cell? ⟨g, 4, none⟩ = some (.bool s.down)) := hr.cell 4 _ rfl
  rw [hvs] at h0
  rw [hvw] at h1
  have H0 := Lib.hid h0
  have H1 := Lib.hid h1
  obtain ⟨im, him⟩ : ∃ im, im = str s.image := ⟨_, rfl⟩
  rw [← him] at CI CR
  obtain ⟨n, hn⟩ : ∃ n, n = s.stands.length := ⟨_, rfl⟩
  rw [← hn] at H0 CL
  obtain ⟨m, hm⟩ : ∃ m, m = s.waits.length := ⟨_, rfl⟩
  rw [← hm] at H1 CW
  obtain ⟨o, ho⟩ : ∃ o, o = s.ops := ⟨_, rfl⟩
  rw [← ho] at H3 CO
  obtain ⟨dn, hdn⟩ : ∃ dn, dn = s.down := ⟨_, rfl⟩
  rw [← hdn] at H4 CD
  have b1 : ((n : Int) == (n : Int)) = true := by simp
  have b2 : ((m : Int) == (m : Int)) = true := by simp
  have b3 : ((o : Int) == (o : Int)) = true := by simp
  have b4 : (dn == dn) = true := by simp
  have b5 : (im.toList == im.toList) = true := by simp
  clear hdn ho hm hn him h0 h1 hvs hvw hd hr hok D
  go_enter Try.func11, Try.ntmps11
  go_wp2_with fail
  refine wp_region_kept (by kernel_rfl) (by kernel_rfl) ?_
  refine wpQuiet_pure (v := ?_) (by kernel_rfl) ?_ (fun K hK => ?_)
  case refine_2 => intro W _; go_simp; try with_reducible rfl
  go_simp
  refine hK _ ?_; clear hK K
  refine wpQuiet_call (by kernel_rfl) _ _ _ (fun W => by go_simp) (fun W h => CL W h) (fun K hK => ?_)
  go_simp
  refine hK _ ?_; clear hK K
  refine wpQuiet_pure (v := ?_) (by kernel_rfl) ?_ (fun K hK => ?_)
  case refine_2 => intro W _; go_simp; try with_reducible rfl
  go_simp
  refine hK _ ?_; clear hK K
  refine wpQuiet_pure (v := ?_) (by kernel_rfl) ?_ (fun K hK => ?_)
  case refine_2 => intro W _; go_simp; try with_reducible rfl
  go_simp
  refine hK _ ?_; clear hK K
  refine wpQuiet_pure (v := ?_) (by kernel_rfl) ?_ (fun K hK => ?_)
  case refine_2 => intro W _; go_simp; try with_reducible rfl
  go_simp
  refine hK _ ?_; clear hK K
  refine wpQuiet_load_cell (by kernel_rfl) _ _ rfl ⟨g, 0, none⟩ rfl _ Try.underlying51 rfl _ (fun _ h => h.cell H0.out) (fun K hK => ?_)
  go_simp
  refine hK _ ?_; clear hK K
  refine wpQuiet_pure (v := ?_) (by kernel_rfl) ?_ (fun K hK => ?_)
  case refine_2 => intro W _; go_simp; try with_reducible rfl
  go_simp
  refine hK _ ?_; clear hK K
  refine wpQuiet_pure (by kernel_rfl) (.bool true) (fun W _ => by go_simp) (fun K hK => ?_)
  go_simp
  refine hK _ ?_; clear hK K
  refine wpQuiet_pure (v := ?_) (by kernel_rfl) ?_ (fun K hK => ?_)
  case refine_2 => intro W _; go_simp; try with_reducible rfl
  go_simp
  refine hK _ ?_; clear hK K
  refine wpQuiet_pure (v := ?_) (by kernel_rfl) ?_ (fun K hK => ?_)
  case refine_2 => intro W _; go_simp; try with_reducible rfl
  go_simp
  refine hK _ ?_; clear hK K
  refine wpQuiet_call (by kernel_rfl) _ _ _ (fun W => by go_simp) (fun W h => CD W h) (fun K hK => ?_)
  go_simp
  refine hK _ ?_; clear hK K
  refine wpQuiet_pure (v := ?_) (by kernel_rfl) ?_ (fun K hK => ?_)
  case refine_2 => intro W _; go_simp; try with_reducible rfl
  go_simp
  refine hK _ ?_; clear hK K
  refine wpQuiet_pure (v := ?_) (by kernel_rfl) ?_ (fun K hK => ?_)
  case refine_2 => intro W _; go_simp; try with_reducible rfl
  go_simp
  refine hK _ ?_; clear hK K
  refine wpQuiet_pure (v := ?_) (by kernel_rfl) ?_ (fun K hK => ?_)
  case refine_2 => intro W _; go_simp; try with_reducible rfl
  go_simp
  refine hK _ ?_; clear hK K
  refine wpQuiet_load_cell (by kernel_rfl) _ _ rfl ⟨g, 4, none⟩ rfl _ Try.underlying4 rfl _ (fun _ h => h.cell H4.out) (fun K hK => ?_)
  go_simp
  refine hK _ ?_; clear hK K
  refine wpQuiet_pure (by kernel_rfl) (.bool true) (fun W _ => by go_simp) (fun K hK => ?_)
  go_simp
  refine hK _ ?_; clear hK K
  refine wpQuiet_pure (v := ?_) (by kernel_rfl) ?_ (fun K hK => ?_)
  case refine_2 => intro W _; go_simp; try with_reducible rfl
  go_simp
  refine hK _ ?_; clear hK K
  refine wpQuiet_pure (v := ?_) (by kernel_rfl) ?_ (fun K hK => ?_)
  case refine_2 => intro W _; go_simp; try with_reducible rfl
  go_simp
  refine hK _ ?_; clear hK K
  refine wpQuiet_pure (v := ?_) (by kernel_rfl) ?_ (fun K hK => ?_)
  case refine_2 => intro W _; go_simp; try with_reducible rfl
  go_simp
  refine hK _ ?_; clear hK K
  refine wpQuiet_call (by kernel_rfl) _ _ _ (fun W => by go_simp) (fun W h => CW W h) (fun K hK => ?_)
  go_simp
  refine hK _ ?_; clear hK K
  refine wpQuiet_pure (v := ?_) (by kernel_rfl) ?_ (fun K hK => ?_)
  case refine_2 => intro W _; go_simp; try with_reducible rfl
  go_simp
  refine hK _ ?_; clear hK K
  refine wpQuiet_pure (v := ?_) (by kernel_rfl) ?_ (fun K hK => ?_)
  case refine_2 => intro W _; go_simp; try with_reducible rfl
  go_simp
  refine hK _ ?_; clear hK K
  refine wpQuiet_pure (v := ?_) (by kernel_rfl) ?_ (fun K hK => ?_)
  case refine_2 => intro W _; go_simp; try with_reducible rfl
  go_simp
  refine hK _ ?_; clear hK K
  refine wpQuiet_load_cell (by kernel_rfl) _ _ rfl ⟨g, 1, none⟩ rfl _ Try.underlying52 rfl _ (fun _ h => h.cell H1.out) (fun K hK => ?_)
  go_simp
  refine hK _ ?_; clear hK K
  refine wpQuiet_pure (v := ?_) (by kernel_rfl) ?_ (fun K hK => ?_)
  case refine_2 => intro W _; go_simp; try with_reducible rfl
  go_simp
  refine hK _ ?_; clear hK K
  refine wpQuiet_pure (by kernel_rfl) (.bool true) (fun W _ => by go_simp) (fun K hK => ?_)
  go_simp
  refine hK _ ?_; clear hK K
  refine wpQuiet_pure (v := ?_) (by kernel_rfl) ?_ (fun K hK => ?_)
  case refine_2 => intro W _; go_simp; try with_reducible rfl
  go_simp
  refine hK _ ?_; clear hK K
  refine wpQuiet_pure (v := ?_) (by kernel_rfl) ?_ (fun K hK => ?_)
  case refine_2 => intro W _; go_simp; try with_reducible rfl
  go_simp
  refine hK _ ?_; clear hK K
  refine wpQuiet_pure (v := ?_) (by kernel_rfl) ?_ (fun K hK => ?_)
  case refine_2 => intro W _; go_simp; try with_reducible rfl
  go_simp
  refine hK _ ?_; clear hK K
  refine wpQuiet_call (by kernel_rfl) _ _ _ (fun W => by go_simp) (fun W h => CO W h) (fun K hK => ?_)
  go_simp
  refine hK _ ?_; clear hK K
  refine wpQuiet_pure (v := ?_) (by kernel_rfl) ?_ (fun K hK => ?_)
  case refine_2 => intro W _; go_simp; try with_reducible rfl
  go_simp
  refine hK _ ?_; clear hK K
  refine wpQuiet_pure (v := ?_) (by kernel_rfl) ?_ (fun K hK => ?_)
  case refine_2 => intro W _; go_simp; try with_reducible rfl
  go_simp
  refine hK _ ?_; clear hK K
  refine wpQuiet_pure (v := ?_) (by kernel_rfl) ?_ (fun K hK => ?_)
  case refine_2 => intro W _; go_simp; try with_reducible rfl
  go_simp
  refine hK _ ?_; clear hK K
  refine wpQuiet_load_cell (by kernel_rfl) _ _ rfl ⟨g, 3, none⟩ rfl _ Try.underlying3 rfl _ (fun _ h => h.cell H3.out) (fun K hK => ?_)
  go_simp
  refine hK _ ?_; clear hK K
  refine wpQuiet_pure (by kernel_rfl) (.bool true) (fun W _ => by go_simp) (fun K hK => ?_)
  go_simp
  refine hK _ ?_; clear hK K
  refine wpQuiet_pure (v := ?_) (by kernel_rfl) ?_ (fun K hK => ?_)
  case refine_2 => intro W _; go_simp; try with_reducible rfl
  go_simp
  refine hK _ ?_; clear hK K
  refine wpQuiet_pure (v := ?_) (by kernel_rfl) ?_ (fun K hK => ?_)
  case refine_2 => intro W _; go_simp; try with_reducible rfl
  go_simp
  refine hK _ ?_; clear hK K
  refine wpQuiet_pure (v := ?_) (by kernel_rfl) ?_ (fun K hK => ?_)
  case refine_2 => intro W _; go_simp; try with_reducible rfl
  go_simp
  refine hK _ ?_; clear hK K
  refine wpQuiet_call (by kernel_rfl) _ _ _ (fun W => by go_simp) (fun W h => CI W h) (fun K hK => ?_)
  go_simp
  refine hK _ ?_; clear hK K
  refine wpQuiet_pure (v := ?_) (by kernel_rfl) ?_ (fun K hK => ?_)
  case refine_2 => intro W _; go_simp; try with_reducible rfl
  go_simp
  refine hK _ ?_; clear hK K
  refine wpQuiet_call (by kernel_rfl) _ _ _ (fun W => by go_simp) (fun W h => CR W h) (fun K hK => ?_)
  go_simp
  refine hK _ ?_; clear hK K
  refine wpQuiet_pure (by kernel_rfl) (.bool true) (fun W _ => by go_simp) (fun K hK => ?_)
  go_simp
  refine hK _ ?_; clear hK K
  refine wpQuiet_pure (v := ?_) (by kernel_rfl) ?_ (fun K hK => ?_)
  case refine_2 => intro W _; go_simp; try with_reducible rfl
  go_simp
  refine hK _ ?_; clear hK K
  refine wpQuiet_pure (v := ?_) (by kernel_rfl) ?_ (fun K hK => ?_)
  case refine_2 => intro W _; go_simp; try with_reducible rfl
  go_simp
  refine hK _ ?_; clear hK K
  refine wpQuiet_nil ?_
  intro w9 hk9
  go_wp2
  go_ret
  exact ⟨rfl, hk9⟩

end Go.Proofs.Ytpnnlpmkgglgdaa
