/- The journal's contracts by name; what is small. Same transactions; JournalReads out of the contracts. A case in a box; big; JournalNobody. -/
import Derived.Test.YtoigembmbajopaaDoorGF
import Derived.Test.YtoigembmbajopaaDoorGJ
import Derived.Test.YtoigembmbajopaaDoorGK
import Derived.Test.YtoigembmbajopaaDoorGC
namespace Go.Proofs.YtoigembmbajopaaDoor
open Go.RowKit

/-! ### What the program's functions are to do -/
def txE (L : List Rc) : Int := if L.length = 0 ∨ 8192 < L.length then 3 else if ∀ r ∈ L, mayR r then 0 else 1
def txT (L : List Rc) : List UInt8 := if txE L = 0 then txB L else []
/-- Load, Append: the bytes (what is used then), the error, and the disk. -/
def jLd (s : Dk) (j u : Int) : List UInt8 × Int := if ¬ jFits s.stands.length j u then ([], 1) else jLoad s u.toNat
def jAp (s : Dk) (j u : Int) (t : List UInt8) : Dk × Int × Int :=
  if ¬ jFits s.stands.length j u then (s, 0, 1) else if j * 128 - u < t.length then (s, 0, 100) else ((jApp s u.toNat t).1, if (jApp s u.toNat t).2 = 0 then u + t.length else 0, (jApp s u.toNat t).2)
def okS (r : Rc) : Prop := r.runs.length ≤ 30 ∧ r.name.length ≤ 200
instance (r : Rc) : Decidable (okS r) := by unfold okS; infer_instance
def smallJ (L : List Rc) : Prop := L.length ≤ 30 ∧ ∀ r ∈ L, okS r
instance (L : List Rc) : Decidable (smallJ L) := by unfold smallJ; infer_instance

def JCheckOk : Prop := ∀ (r : Rc) (tv : Value) (w : World), RecAt r tv w → okS r → Calls Tryd.prog 12 #[recV r tv] w fun e w' => e = .returned (.int .i64 (if mayR r then 0 else 1)) ∧ Kept w w'
def JSameOk : Prop := ∀ (r q : Rc) (tv uv : Value) (w : World), RecAt r tv w → RecAt q uv w → okS r → okS q → Calls Tryd.prog 13 #[recV r tv, recV q uv] w fun e w' => e = .returned (.bool (decide (r = q))) ∧ Kept w w'
def JTxOk : Prop := ∀ (L : List Rc) (v : Value) (w : World), RecsAt L v w → smallJ L → TabAt w → Calls Tryd.prog 15 #[v] w fun e w' => e = .returned (.tuple #[.string (str (txT L)), .int .i64 (txE L)]) ∧ Kept w w'
def JReadPost (t : List UInt8) (w : World) (e : Ending) (w' : World) : Prop := Kept w w' ∧ (((¬ ∃ L, JRd t L) ∧ ∃ p c, e = .returned (.tuple #[.slice p 0 c, .int .i64 110])) ∨ ∃ L v, JRd t L ∧ e = .returned (.tuple #[v, .int .i64 0]) ∧ TxsAt L v w')
def JReadOk : Prop := ∀ (t : ByteArray) (w : World), t.size ≤ 100000 → TabAt w → Calls Tryd.prog 16 #[.string t] w (JReadPost t.data.toList w)
def JLoadOk : Prop := ∀ (B : Nat) (x : Value) (P : Dk → (Nat → Prop) → World → Prop), DiskOk B x P → ∀ (s : Dk) (Bs : Nat → Prop) (w : World) (j u : Int), P s Bs w → s.ok → s.ops ≤ 4294900000 → I64 j → I64 u →
  Calls Tryd.prog 26 #[x, .int .i64 j, .int .i64 u] w fun e w' => e = .returned (.tuple #[.string (str (jLd s j u).1), .int .i64 (jLd s j u).2]) ∧ Kept w w'
def JAppendOk : Prop := ∀ (B : Nat) (x : Value) (P : Dk → (Nat → Prop) → World → Prop), DiskOk B x P → ∀ (s : Dk) (Bs : Nat → Prop) (w : World) (j u : Int) (t : ByteArray), P s Bs w → s.ok → s.ops ≤ 4294900000 → I64 j → I64 u → t.size ≤ maxLen →
  Calls Tryd.prog 24 #[x, .int .i64 j, .int .i64 u, .string t] w (DPost P Bs (jAp s j u t.data.toList).1 (.tuple #[.int .i64 (jAp s j u t.data.toList).2.1, .int .i64 (jAp s j u t.data.toList).2.2]) w)
/-- A nil disk. -/
def JNilOk : Prop :=
  (∀ (j u : Int) w, I64 j → I64 u → Calls Tryd.prog 26 #[.pointer none, .int .i64 j, .int .i64 u] w fun e w' => e = .returned (.tuple #[.string ⟨#[]⟩, .int .i64 4]) ∧ Kept w w') ∧
  (∀ (j u : Int) (t : ByteArray) w, I64 j → I64 u → t.size ≤ maxLen → Calls Tryd.prog 24 #[.pointer none, .int .i64 j, .int .i64 u, .string t] w fun e w' => e = .returned (.tuple #[.int .i64 0, .int .i64 4]) ∧ Kept w w')

/-! ### Small records -/
set_option maxRecDepth 100000 in
set_option maxHeartbeats 8000000 in
theorem small13_any (L : List Rc) (v : Value) (w : World) (h : RecsAt L v w) (hl : L.length ≤ maxLen) :
    Calls Tryd.prog 9 #[v] w fun e w' => e = .returned (.bool (decide (smallJ L))) ∧ w = w' := by
  obtain ⟨A, eA, hA⟩ := h
  have lA := RecsIn.len eA
  obtain ⟨p, c, rfl, -, -⟩ := hA.out
  have gA := fun i hi => hA.at_k eA i hi
  obtain ⟨n, hn⟩ : ∃ n, n = A.length := ⟨_, rfl⟩
  rw [← hn] at lA gA ⊢
  rw [lA] at hl
  unfold maxLen at hl
  obtain ⟨res, hres⟩ : ∃ res, res = decide (smallJ L) := ⟨_, rfl⟩
  rw [← hres]
  have HR := Lib.hid hres
  have GA := Lib.hid gA
  have HLN := Lib.hid lA
  clear hA eA hn lA gA hres
  go_enter Tryd.func9, Tryd.ntmps9
  go_wp2
  go_loopg [3] n (fun gh s3 wx => ∃ k : Nat, k + gh = n ∧ s3 = .int .i64 k ∧ Hid (∀ r ∈ L.take k, okS r) ∧ w = wx)
  case atStart => exact ⟨0, by omega, rfl, Lib.hid (fun r hr => by simp at hr), rfl⟩
  case round =>
    obtain ⟨k, hk, rfl, HT, rfl⟩ := hrel
    by_cases hkn : k < n
    · have hki : (k : Int) < n := by omega
      have bk : decide ((k : Int) < (n : Int)) = true := by simpa using hki
      have hki0 : (0 : Int) ≤ k := by omega
      by_cases hk30 : k < 30
      · have hki3 : (k : Int) < 30 := by omega
        have bk3 : decide ((k : Int) < 30) = true := by simpa using hki3
        obtain ⟨k1, hk1⟩ : ∃ k1, k1 = k + 1 := ⟨_, rfl⟩
        have v1 : IntKind.i64.wrap ((k : Int) + 1) = (k1 : Int) := by rw [show (k : Int) + 1 = (k1 : Int) by omega]; exact IntWalk.i64_in _ (by omega)
        obtain ⟨r, tv, e1, hrm, hra, b, off, rfl, hrg⟩ := GA.out k hkn
        obtain ⟨pt, ct, rfl, hct, -⟩ := hra.runs.out
        have c2 : w.cell? ⟨b, off + k * 5 + 2, none⟩ = some (.string (str r.name)) := hrg 2 _ rfl
        have c4 : w.cell? ⟨b, off + k * 5 + 4, none⟩ = some (.slice pt r.runs.length ct) := hrg 4 _ rfl
        obtain ⟨N, hN⟩ : ∃ N, N = str r.name := ⟨_, rfl⟩
        rw [← hN] at c2
        obtain ⟨nl, hnl⟩ : ∃ nl, nl = r.name.length := ⟨_, rfl⟩
        have zN : N.size = nl := by rw [hN, str_size, hnl]
        obtain ⟨rl, hrl⟩ : ∃ rl, rl = r.runs.length := ⟨_, rfl⟩
        rw [← hrl] at c4
        have HOK : Hid (okS r ↔ rl ≤ 30 ∧ nl ≤ 200) := Lib.hid (by unfold okS; rw [hrl, hnl])
        have HTK : Hid (L.take k1 = L.take k ++ [r]) := Lib.hid (by rw [hk1, List.take_add_one, e1]; rfl)
        have HRM := Lib.hid hrm
        have HK1 : Hid (k1 = k + 1 ∧ k + gk = n) := Lib.hid ⟨hk1, hk⟩
        clear hN hnl hrl e1 hra hrg hrm hk1 hk
        by_cases h1 : rl ≤ 30
        · have b1 : decide ((rl : Int) > 30) = false := decide_eq_false (by omega)
          by_cases h2 : nl ≤ 200
          · have b2 : decide ((nl : Int) > 200) = false := decide_eq_false (by omega)
            have HT1 : Hid (∀ q ∈ L.take k1, okS q) := Lib.hid (fun q hq => by
              rw [HTK.out] at hq
              rcases List.mem_append.1 hq with y | y
              · exact HT.out q y
              · rw [List.mem_singleton.1 y]; exact HOK.out.2 ⟨h1, h2⟩)
            clear HTK HOK HT
            go_wp2
            go_roundg (n - k1)
            case measure => have := HK1.out; omega
            case rel => exact ⟨k1, by have := HK1.out; omega, by first | rfl | (congr 1; have := HK1.out; omega), HT1, rfl⟩
          · have b2 : decide ((nl : Int) > 200) = true := decide_eq_true (by omega)
            have HF : Hid (res = false) := Lib.hid (by rw [HR.out]; exact decide_eq_false (fun y => h2 (HOK.out.1 (y.2 r HRM.out)).2))
            clear HTK HOK HT
            go_wp2
            first | go_ret | go_ret2
            exact ⟨by rw [HF.out]; rfl, rfl⟩
        · have b1 : decide ((rl : Int) > 30) = true := decide_eq_true (by omega)
          have HF : Hid (res = false) := Lib.hid (by rw [HR.out]; exact decide_eq_false (fun y => h1 (HOK.out.1 (y.2 r HRM.out)).1))
          clear HTK HOK HT
          go_wp2
          first | go_ret | go_ret2
          exact ⟨by rw [HF.out]; rfl, rfl⟩
      · have bk3 : decide ((k : Int) < 30) = false := decide_eq_false (by omega)
        have b30 : decide ((n : Int) ≤ 30) = false := decide_eq_false (by omega)
        have HF : Hid (res = false) := Lib.hid (by rw [HR.out]; exact decide_eq_false (fun y => by have := y.1; have := HLN.out; omega))
        clear HT
        go_wp2
        first | go_ret | go_ret2
        exact ⟨by rw [HF.out]; rfl, rfl⟩
    · have hki : ¬ (k : Int) < n := by omega
      have bk : decide ((k : Int) < (n : Int)) = false := by simpa using hki
      have HF : Hid (res = decide ((n : Int) ≤ 30)) := Lib.hid (by
        rw [HR.out]
        refine decide_eq_decide.2 ⟨fun y => by have := y.1; have := HLN.out; omega, fun y => ⟨by have := HLN.out; omega, fun r hr => HT.out r ?_⟩⟩
        rw [List.take_of_length_le (by have := HLN.out; omega)]
        exact hr)
      clear HT
      go_wp2
      first | go_ret | go_ret2
      exact ⟨by rw [HF.out]; rfl, rfl⟩

end Go.Proofs.YtoigembmbajopaaDoor
namespace Go.Proofs.YtoigembmbajopaaDoor
open Go.RowKit

def AwakeJ : Prop := ∀ w, TabAt w → Calls Tryd.prog 10 #[] w fun e w' => e = .returned (.bool true) ∧ Kept w w'
theorem TxsIn.at_k {L : List (List Rc)} {vs : List Value} {p : Option Addr} {m c : Nat} {w : World} (h : TxsIn L vs (.slice p m c) w) (i : Nat) (hi : i < m) :
    ∃ (l : List Rc) (v : Value), L[i]? = some l ∧ l ∈ L ∧ RecsAt l v w ∧ ∃ b off, p = some ⟨b, off, none⟩ ∧ w.cell? ⟨b, off + i, none⟩ = some v := by
  obtain ⟨p', c', he, -, hc⟩ := h.out
  simp only [Value.slice.injEq] at he
  obtain ⟨rfl, rfl, rfl⟩ := he
  have hv : i < vs.length := by rw [h.len]; exact hi
  have e1 : L[i]? = some L[i] := List.getElem?_eq_getElem hi
  refine ⟨L[i], vs[i], e1, List.getElem_mem hi, h.each i hi hv, ?_⟩
  rcases hc with h0 | ⟨b, off, hp, hc⟩
  · omega
  · exact ⟨b, off, hp, hc i hv⟩
theorem take_sameT {L M : List (List Rc)} {k : Nat} {r q : List Rc} (h : L.take k = M.take k) (h1 : L[k]? = some r) (h2 : M[k]? = some q) : (r = q → L.take (k + 1) = M.take (k + 1)) ∧ (r ≠ q → L ≠ M) := by
  refine ⟨fun e => ?_, fun e x => e ?_⟩
  · rw [List.take_add_one, List.take_add_one, h, h1, h2, e]
  · rw [x, h2] at h1; exact (Option.some.inj h1).symm
/-- Lists that SameAll may be asked. -/
def midR (l : List Rc) : Prop := l.length ≤ 1048576 ∧ ∀ r ∈ l, r.runs.length ≤ 1048576

set_option maxRecDepth 100000 in
set_option maxHeartbeats 8000000 in
theorem all13_any (L M : List (List Rc)) (u v : Value) (w : World) (h : TxsAt L u w) (h2 : TxsAt M v w) (hl : L.length ≤ 1048576) (hr : ∀ l ∈ L, midR l) :
    Calls Tryd.prog 20 #[u, v] w fun e w' => e = .returned (.bool (decide (L = M))) ∧ Kept w w' := by
  obtain ⟨A, hA⟩ := h
  obtain ⟨B, hB⟩ := h2
  obtain ⟨p, c, rfl, -, -⟩ := hA.out
  obtain ⟨p', c', rfl, -, -⟩ := hB.out
  have gA := fun i hi => hA.at_k i hi
  have gB := fun i hi => hB.at_k i hi
  obtain ⟨n, hn⟩ : ∃ n, n = L.length := ⟨_, rfl⟩
  obtain ⟨m, hm⟩ : ∃ m, m = M.length := ⟨_, rfl⟩
  rw [← hn] at gA ⊢
  rw [← hm] at gB ⊢
  rw [← hn] at hl
  have HRL := Lib.hid hr
  by_cases hnm : n = m
  · subst hnm
    have b0 : ((n : Int) != (n : Int)) = false := by simp
    have GA := Lib.hid gA
    have GB := Lib.hid gB
    have HLN : Hid (L.length = n ∧ M.length = n) := Lib.hid ⟨hn.symm, hm.symm⟩
    clear hA hB hn hm gA gB hr
    go_enter Tryd.func20, Tryd.ntmps20
    go_wp2
    go_loopg [5] n (fun gh s5 wx => ∃ k : Nat, k + gh = n ∧ s5 = .int .i64 k ∧ Hid (L.take k = M.take k) ∧ Hid (Kept w wx))
    case atStart => exact ⟨0, by omega, rfl, Lib.hid rfl, Lib.hid (Kept.refl w)⟩
    case round =>
      obtain ⟨k, hk, rfl, HT, HK⟩ := hrel
      by_cases hkn : k < n
      · have hki : (k : Int) < n := by omega
        have bk : decide ((k : Int) < (n : Int)) = true := by simpa using hki
        have hki0 : (0 : Int) ≤ k := by omega
        obtain ⟨k1, hk1⟩ : ∃ k1, k1 = k + 1 := ⟨_, rfl⟩
        have v1 : IntKind.i64.wrap ((k : Int) + 1) = (k1 : Int) := by rw [show (k : Int) + 1 = (k1 : Int) by omega]; exact IntWalk.i64_in _ (by omega)
        obtain ⟨r, tv, e1, hrm, hra, b, off, rfl, hrg⟩ := GA.out k hkn
        obtain ⟨q, uv, e2, -, hqa, b', off', rfl, hqg⟩ := GB.out k hkn
        have CS := fun W (kk : Kept w W) => rsameAll_any r q tv uv W (hra.later kk) (hqa.later kk) (HRL.out r hrm).1 (HRL.out r hrm).2
        have HST := Lib.hid (take_sameT HT.out e1 e2)
        obtain ⟨pt, ct, rfl, -⟩ := hra.sliced
        obtain ⟨pu, cu, rfl, -⟩ := hqa.sliced
        obtain ⟨lr, hlr⟩ : ∃ x, x = r.length := ⟨_, rfl⟩
        obtain ⟨lq, hlq⟩ : ∃ x, x = q.length := ⟨_, rfl⟩
        rw [← hlr] at CS hrg
        rw [← hlq] at CS hqg
        have HX := Lib.hid (HK.out.cell hrg)
        have HY := Lib.hid (HK.out.cell hqg)
        obtain ⟨sb, hsb⟩ : ∃ sb, sb = decide (r = q) := ⟨_, rfl⟩
        rw [← hsb] at CS
        have HSB := Lib.hid hsb
        have HK1 := Lib.hid hk1
        clear e1 e2 hra hqa hrg hqg hsb hrm HT hk1 hlr hlq
        go_wp2_with fail
        refine wp_region_kept (by kernel_rfl) (by kernel_rfl) ?_
        refine wpQuiet_pure (v := ?_) (by kernel_rfl) ?_ (fun K hK => ?_)
        case refine_2 => intro W _; go_simp; try with_reducible rfl
        go_simp
        refine hK _ ?_; clear hK K
        refine wpQuiet_pure (v := ?_) (by kernel_rfl) ?_ (fun K hK => ?_)
        case refine_2 => intro W _; go_simp; try with_reducible rfl
        go_simp
        refine hK _ ?_; clear hK K
        refine wpQuiet_pure (v := ?_) (by kernel_rfl) ?_ (fun K hK => ?_)
        case refine_2 => intro W _; go_simp; try with_reducible rfl
        go_simp
        refine hK _ ?_; clear hK K
        refine wpQuiet_load_cell (by kernel_rfl) _ _ rfl ⟨b, off + k, none⟩ rfl _ Tryd.underlying22 rfl _ (fun _ h => h.cell HX.out) (fun K hK => ?_)
        go_simp
        refine hK _ ?_; clear hK K
        refine wpQuiet_pure (v := ?_) (by kernel_rfl) ?_ (fun K hK => ?_)
        case refine_2 => intro W _; go_simp; try with_reducible rfl
        go_simp
        refine hK _ ?_; clear hK K
        refine wpQuiet_pure (v := ?_) (by kernel_rfl) ?_ (fun K hK => ?_)
        case refine_2 => intro W _; go_simp; try with_reducible rfl
        go_simp
        refine hK _ ?_; clear hK K
        refine wpQuiet_pure (v := ?_) (by kernel_rfl) ?_ (fun K hK => ?_)
        case refine_2 => intro W _; go_simp; try with_reducible rfl
        go_simp
        refine hK _ ?_; clear hK K
        refine wpQuiet_load_cell (by kernel_rfl) _ _ rfl ⟨b', off' + k, none⟩ rfl _ Tryd.underlying22 rfl _ (fun _ h => h.cell HY.out) (fun K hK => ?_)
        go_simp
        refine hK _ ?_; clear hK K
        refine wpQuiet_call (by kernel_rfl) _ _ _ (fun W => by go_simp) (fun W h => Calls.kept_of h (CS W (HK.out.then h))) (fun K hK => ?_)
        go_simp
        refine hK _ ?_; clear hK K
        refine wpQuiet_pure (v := ?_) (by kernel_rfl) ?_ (fun K hK => ?_)
        case refine_2 => intro W _; go_simp; try with_reducible rfl
        go_simp
        refine hK _ ?_; clear hK K
        refine wpQuiet_nil ?_
        intro w2 hk2
        have K2 : Hid (Kept w w2) := Lib.hid (HK.out.then hk2)
        cases sb with
        | true =>
          have HT2 : Hid (L.take k1 = M.take k1) := Lib.hid (by rw [HK1.out]; exact HST.out.1 (of_decide_eq_true HSB.out.symm))
          clear HX HY CS hk2
          go_wp2
          go_roundg (n - k1)
          · exact ⟨k1, by have := HK1.out; omega, by first | rfl | (have := HK1.out; simp; omega), HT2, K2⟩
          · have := HK1.out; omega
        | false =>
          have HR : Hid (decide (L = M) = false) := Lib.hid (decide_eq_false (HST.out.2 (of_decide_eq_false HSB.out.symm)))
          clear HX HY CS hk2
          go_wp2
          go_ret
          exact ⟨by rw [HR.out]; rfl, K2.out⟩
      · have hki : ¬ (k : Int) < n := by omega
        have bk : decide ((k : Int) < (n : Int)) = false := by simpa using hki
        have HR : Hid (decide (L = M) = true) := Lib.hid (decide_eq_true (by
          have h := HT.out
          rw [List.take_of_length_le (by rw [HLN.out.1]; omega), List.take_of_length_le (by rw [HLN.out.2]; omega)] at h
          exact h))
        clear HT
        go_wp2
        go_ret
        exact ⟨by rw [HR.out]; rfl, HK.out⟩
  · have b0 : ((n : Int) != (m : Int)) = true := by rw [bne_iff_ne]; omega
    have HR : Hid (decide (L = M) = false) := Lib.hid (decide_eq_false (fun e => hnm (by rw [hn, hm, e])))
    clear hA hB hn hm hr gA gB hnm
    go_enter Tryd.func20, Tryd.ntmps20
    go_wp2
    go_ret
    exact ⟨by rw [HR.out]; rfl, Kept.refl w⟩

theorem okTx.mid {l : List Rc} (h : okTx l) : midR l := ⟨by have := h.1; omega, fun r hr => by
  have h2 := (h.2 r hr).2.2.2.2.2
  rcases h2 with y | y
  · have := y.2.2.1; omega
  · have := y.2.2; omega⟩
theorem JRd.mid {t : List UInt8} {L : List (List Rc)} (h : JRd t L) : L.length ≤ t.length ∧ ∀ l ∈ L, midR l := by
  refine ⟨?_, fun l hl => (h.2 l hl).mid⟩
  have h1 : ∀ (M : List (List Rc)), M.length ≤ (txsB M).length := by
    intro M
    induction M with
    | nil => exact Nat.zero_le _
    | cons a M ih =>
      show M.length + 1 ≤ (txB a ++ txsB M).length
      rw [List.length_append]
      unfold txB
      rw [List.length_append, leB_len]
      omega
  rw [h.1]
  exact h1 L

set_option maxRecDepth 100000 in
set_option maxHeartbeats 8000000 in
theorem journalReads_of (JR : JReadOk) (AW : AwakeJ) (s : ByteArray) (w : World) (hT : TabAt w) :
    Calls Tryd.prog 4 #[.string s] w fun e w' => e = .returned (.bool true) ∧ Kept w w' := by
  obtain ⟨n, hn⟩ : ∃ n, n = s.size := ⟨_, rfl⟩
  have zs : s.size = n := hn.symm
  by_cases hb : n > 2000
  · have b0 : decide ((n : Int) > 2000) = true := decide_eq_true (by omega)
    have A0 := AW w hT
    clear hn JR AW hT
    go_enter Tryd.func4, Tryd.ntmps4
    go_wp2_with fail
    refine A0.mono ?_
    rintro e w1 ⟨rfl, hb1⟩
    have K1 := Lib.hid hb1
    clear A0 hb1
    go_wp2
    first | go_ret | go_ret2
    exact ⟨rfl, K1.out⟩
  · have b0 : decide ((n : Int) > 2000) = false := decide_eq_false (by omega)
    have HT := Lib.hid hT
    have R1 := JR s w (by omega) hT
    have R2 := fun W => rread13_any s (by omega) W
    obtain ⟨S, hS⟩ : ∃ S, S = s.data.toList := ⟨_, rfl⟩
    have HSZ : Hid (S.length ≤ 2000) := Lib.hid (by rw [hS, data_len]; omega)
    rw [← hS] at R1 R2
    unfold JReadPost at R1
    unfold ReadPost at R2
    clear hn hS JR hT
    go_enter Tryd.func4, Tryd.ntmps4
    go_wp2_with fail
    refine R1.mono ?_
    rintro e w1 ⟨hb1, hc⟩
    have K1 := Lib.hid hb1
    have R3 := R2 w1
    have HC1 := Lib.hid hc
    clear R1 R2 hb1 hc
    rcases HC1.out with ⟨hno, p, c, rfl⟩ | ⟨L, v, hj, rfl, hv⟩
    · go_wp2_with fail
      refine R3.mono ?_
      rintro e w2 ⟨hb2, hc2⟩
      have K2 := Lib.hid ((show Kept w w1 from K1.out).then hb2)
      rcases hc2 with ⟨-, rfl⟩ | ⟨E, u, hj, -⟩
      · have A0 := AW w2 (HT.out.later K2.out)
        clear R3 AW hb2 hno HC1
        go_wp2_with fail
        refine A0.mono ?_
        rintro e w3 ⟨rfl, hb3⟩
        have K3 := Lib.hid ((show Kept w w2 from K2.out).then hb3)
        clear A0 hb3
        go_wp2
        first | go_ret | go_ret2
        exact ⟨rfl, K3.out⟩
      · exact absurd ⟨_, hj⟩ hno
    · obtain ⟨vs, hvs⟩ := hv
      obtain ⟨pl, cl, hpl, -, -⟩ := hvs.out
      have HJ1 := Lib.hid hj
      have HV1 : Hid (TxsAt L v w1) := Lib.hid ⟨vs, hvs⟩
      obtain ⟨nl, hnl⟩ : ∃ nl, nl = L.length := ⟨_, rfl⟩
      rw [← hnl] at hpl
      clear hj hvs HC1 hnl
      subst hpl
      go_wp2_with fail
      refine R3.mono ?_
      rintro e w2 ⟨hb2, hc2⟩
      have K2 := Lib.hid ((show Kept w w1 from K1.out).then hb2)
      rcases hc2 with ⟨hno, -⟩ | ⟨E, u, hj, rfl, hu⟩
      · exact absurd ⟨_, HJ1.out⟩ hno
      · have hLE : L = txsOf E := HJ1.out.one hj
        have hmid := HJ1.out.mid
        have AL := all13_any L (txsOf E) _ u w2 (HV1.out.later hb2) hu.at_ (by have := HSZ.out; omega) hmid.2
        rw [decide_eq_true hLE] at AL
        obtain ⟨pu, cu, hpu, -, -⟩ := own_slice hu.1
        have KK2 := Lib.hid hb2
        clear R3 hb2 hLE hmid hj hu HV1 HJ1
        subst hpu
        go_wp2_with fail
        refine AL.mono ?_
        rintro e w3 ⟨rfl, hb3⟩
        have K3 := Lib.hid ((show Kept w w2 from K2.out).then hb3)
        have A0 := AW w3 (HT.out.later K3.out)
        clear AL AW hb3
        go_wp2_with fail
        refine A0.mono ?_
        rintro e w4 ⟨rfl, hb4⟩
        have K4 := Lib.hid ((show Kept w w3 from K3.out).then hb4)
        clear A0 hb4
        go_wp2
        first | go_ret | go_ret2
        exact ⟨rfl, K4.out⟩

end Go.Proofs.YtoigembmbajopaaDoor
namespace Go.Proofs.YtoigembmbajopaaDoor
open Go.RowKit

def caseC (n : Int) (vb : Value) (fz j u : Int) (t : ByteArray) (vk : Value) : Array Value := #[.int .i64 n, vb, .int .i64 fz, .int .i64 j, .int .i64 u, .string t, vk]
def bigC (n : Int) (tl kl : Nat) : Prop := n < 1 ∨ 40 < n ∨ 3000 < tl ∨ 100 < kl
instance (n : Int) (tl kl : Nat) : Decidable (bigC n tl kl) := by unfold bigC; infer_instance

set_option maxRecDepth 100000 in
set_option maxHeartbeats 8000000 in
theorem big13_any (n : Int) (_ : I64 n) (vb : Value) (fz j u : Int) (t : ByteArray) (pk : Option Addr) (kl ck : Nat) (hs : t.size ≤ maxLen) (hk : kl ≤ maxLen) (w : World) :
    Calls Tryd.prog 21 #[.agg (caseC n vb fz j u t (.slice pk kl ck))] w fun e w' => e = .returned (.bool (decide (bigC n t.size kl))) ∧ Kept w w' := by
  obtain ⟨tl, htl⟩ : ∃ tl, tl = t.size := ⟨_, rfl⟩
  have zt : t.size = tl := htl.symm
  rw [zt]
  rw [zt] at hs
  unfold maxLen at hs hk
  obtain ⟨res, hres⟩ : ∃ res, res = decide (bigC n tl kl) := ⟨_, rfl⟩
  rw [← hres]
  have HR := Lib.hid hres
  unfold caseC
  obtain ⟨W1, hW1⟩ : ∃ W1, W1 = w.alloc (.cells #[.int .i64 n, vb, .int .i64 fz, .int .i64 j, .int .i64 u, .string t, .slice pk kl ck] 49) := ⟨_, rfl⟩
  have HW1 := Lib.hid hW1
  have K1 : Hid (Kept w W1) := Lib.hid (by rw [hW1]; exact box_below _ _)
  have HC : Hid (W1.heap[w.heap.size]? = some (.cells #[.int .i64 n, vb, .int .i64 fz, .int .i64 j, .int .i64 u, .string t, .slice pk kl ck] 49 (0, 0))) := Lib.hid (by rw [hW1]; exact heap_alloc_last w _)
  have c0 : W1.cell? ⟨w.heap.size, 0, none⟩ = some (.int .i64 n) := by rw [cell_of_row _ _ _ _ _ _ HC.out]; rfl
  have c5 : W1.cell? ⟨w.heap.size, 5, none⟩ = some (.string t) := by rw [cell_of_row _ _ _ _ _ _ HC.out]; rfl
  have c6 : W1.cell? ⟨w.heap.size, 6, none⟩ = some (.slice pk kl ck) := by rw [cell_of_row _ _ _ _ _ _ HC.out]; rfl
  clear htl hres hW1
  have hcase : (decide (n < 1) = true ∧ res = true) ∨ (decide (n < 1) = false ∧ decide (n > 40) = true ∧ res = true) ∨ (decide (n < 1) = false ∧ decide (n > 40) = false ∧ decide ((tl : Int) > 3000) = true ∧ res = true) ∨ (decide (n < 1) = false ∧ decide (n > 40) = false ∧ decide ((tl : Int) > 3000) = false ∧ decide ((kl : Int) > 100) = res) := by
    have h := HR.out
    unfold bigC at h
    by_cases h1 : n < 1
    · exact Or.inl ⟨decide_eq_true h1, by rw [h]; exact decide_eq_true (Or.inl h1)⟩
    refine Or.inr ?_
    by_cases h2 : n > 40
    · exact Or.inl ⟨decide_eq_false h1, decide_eq_true h2, by rw [h]; exact decide_eq_true (Or.inr (Or.inl h2))⟩
    refine Or.inr ?_
    by_cases h3 : (tl : Int) > 3000
    · exact Or.inl ⟨decide_eq_false h1, decide_eq_false h2, decide_eq_true h3, by rw [h]; exact decide_eq_true (by omega)⟩
    refine Or.inr ⟨decide_eq_false h1, decide_eq_false h2, decide_eq_false h3, ?_⟩
    rw [h]
    exact decide_eq_decide.2 (by omega)
  go_enter Tryd.func21, Tryd.ntmps21
  rcases hcase with ⟨b1, b5⟩ | ⟨b1, b2, b5⟩ | ⟨b1, b2, b3, b5⟩ | ⟨b1, b2, b3, b4⟩
  all_goals (
    go_wp2_with (rw [← HW1.out])
    first | go_ret | go_ret2
    refine ⟨?_, K1.out⟩
    first | rfl | (rw [b5]; rfl) | (simp only [b4]; rfl))

set_option maxRecDepth 100000 in
set_option maxHeartbeats 8000000 in
theorem journalNobody_of (JN : JNilOk) (AW : AwakeJ) (n : Int) (vb : Value) (fz j u : Int) (hj : I64 j) (hu : I64 u) (t : ByteArray) (ht : t.size ≤ maxLen) (vk : Value) (w : World) (hT : TabAt w) :
    Calls Tryd.prog 8 #[.agg (caseC n vb fz j u t vk)] w fun e w' => e = .returned (.bool true) ∧ Kept w w' := by
  unfold caseC
  obtain ⟨W1, hW1⟩ : ∃ W1, W1 = w.alloc (.cells #[.int .i64 n, vb, .int .i64 fz, .int .i64 j, .int .i64 u, .string t, vk] 49) := ⟨_, rfl⟩
  have HW1 := Lib.hid hW1
  have K1 : Hid (Kept w W1) := Lib.hid (by rw [hW1]; exact box_below _ _)
  have HC : Hid (W1.heap[w.heap.size]? = some (.cells #[.int .i64 n, vb, .int .i64 fz, .int .i64 j, .int .i64 u, .string t, vk] 49 (0, 0))) := Lib.hid (by rw [hW1]; exact heap_alloc_last w _)
  have c3 : W1.cell? ⟨w.heap.size, 3, none⟩ = some (.int .i64 j) := by rw [cell_of_row _ _ _ _ _ _ HC.out]; rfl
  have c4 : W1.cell? ⟨w.heap.size, 4, none⟩ = some (.int .i64 u) := by rw [cell_of_row _ _ _ _ _ _ HC.out]; rfl
  have c5 : W1.cell? ⟨w.heap.size, 5, none⟩ = some (.string t) := by rw [cell_of_row _ _ _ _ _ _ HC.out]; rfl
  have L1 := JN.1 j u W1 hj hu
  have A1 := fun W => JN.2 j u t W hj hu ht
  have HT := Lib.hid hT
  clear hW1 JN hT HC ht
  go_enter Tryd.func8, Tryd.ntmps8
  go_wp2_with (rw [← HW1.out])
  refine L1.mono ?_
  rintro e w2 ⟨rfl, hb2⟩
  have K2 := Lib.hid ((show Kept w W1 from K1.out).then hb2)
  have d3 := Kept.cell hb2 c3
  have d4 := Kept.cell hb2 c4
  have d5 := Kept.cell hb2 c5
  have A2 := A1 w2
  clear L1 A1 hb2 c3 c4 c5
  go_wp2_with fail
  refine A2.mono ?_
  rintro e w3 ⟨rfl, hb3⟩
  have K3 := Lib.hid ((show Kept w w2 from K2.out).then hb3)
  have A3 := AW w3 (HT.out.later K3.out)
  clear A2 AW hb3 d3 d4 d5
  go_wp2_with fail
  refine A3.mono ?_
  rintro e w4 ⟨rfl, hb4⟩
  have K4 := Lib.hid ((show Kept w w3 from K3.out).then hb4)
  clear A3 hb4
  go_wp2
  first | go_ret | go_ret2
  exact ⟨rfl, K4.out⟩

end Go.Proofs.YtoigembmbajopaaDoor
