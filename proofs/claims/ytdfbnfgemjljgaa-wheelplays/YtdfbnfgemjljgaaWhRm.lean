/-
  The document's wheel: Set, of any.
-/
import Derived.Test.YtdfbnfgemjljgaaWhRk
import Derived.Test.YtdfbnfgemjljgaaWhRl
namespace Go.Proofs.Ytdfbnfgemjljgaa
open Go.RowKit
set_option linter.unusedVariables false
set_option maxRecDepth 1000000

theorem rset_any {W : World} {B : Nat} {T last : Int} {a : Option Addr} {len cap : Nat} {L : List Tm} (h : RwAt W B T last a len cap L) (hT : 0 ≤ T ∧ T ≤ 1099511627776) (hl0 : 0 ≤ last ∧ last ≤ 2147483647) (now after kind label : Int) (ha : isI after) (hk : isI kind) (hu : isU label) :
    Calls Try.prog 16 #[.pointer (some ⟨B, 0, none⟩), .int .i64 now, .int .i64 after, .int .i64 kind, .int .u64 label] W fun e w' => e = .returned (.tuple #[.int .i64 (if setC last L after = 0 then last + 1 else 0), .int .i64 (setC last L after)]) ∧
      Hid (RwO W B (timeZ T now) (if setC last L after = 0 then last + 1 else last) (setL (timeZ T now) last after kind label L) w') := by
  cases a with
  | none => exact rset_none h hT hl0 rfl now after kind label ha hk hu
  | some ad => exact rset_some h hT hl0 ⟨ad, rfl⟩ now after kind label ha hk hu
end Go.Proofs.Ytdfbnfgemjljgaa
