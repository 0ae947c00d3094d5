/-
  The types of this program, as they are read.
-/
import Derived.Test.YtffjfadmhpfmbaaAmC
import Derived.Test.YtffjfadmhpfmbaaProg
namespace Go.Proofs.Ytffjfadmhpfmbaa
open Go.Am
abbrev tt : Tab := [(2, ⟨1, 8, [.int .i64 0], .word, some .i64, []⟩),
  (3, ⟨1, 8, [.int .i64 0], .word, some .i64, []⟩),
  (4, ⟨1, 1, [.bool false], .bool, none, []⟩),
  (5, ⟨1, 1, [.int .u8 0], .word, some .u8, []⟩),
  (9, ⟨1, 16, [.string ⟨#[]⟩], .str, none, []⟩),
  (12, ⟨1, 8, [.int .u64 0], .word, some .u64, []⟩),
  (20, ⟨1, 16, [.nilIface], .iface, none, []⟩),
  (21, ⟨1, 4, [.int .i32 0], .word, some .i32, []⟩),
  (22, ⟨1, 24, [.slice none 0 0], .slice 9, none, []⟩),
  (23, ⟨3, 40, [.int .i64 0, .int .i64 0, .slice none 0 0], .struct [(0, 1, false), (1, 1, false), (2, 1, false)], none, []⟩),
  (24, ⟨3, 40, [.int .i64 0, .int .i64 0, .slice none 0 0], .struct [(0, 1, false), (1, 1, false), (2, 1, false)], none, []⟩),
  (27, ⟨3, 40, [.int .i64 0, .int .i64 0, .slice none 0 0], .struct [(0, 1, false), (1, 1, false), (2, 1, false)], none, []⟩),
  (31, ⟨1, 24, [.slice none 0 0], .slice 46, none, []⟩),
  (34, ⟨1, 24, [.slice none 0 0], .slice 47, none, []⟩),
  (39, ⟨1, 8, [.pointer none], .word, none, []⟩),
  (45, ⟨3, 32, [.int .i64 0, .int .i64 0, .string ⟨#[]⟩], .struct [(0, 1, false), (1, 1, false), (2, 1, false)], none, [.int .i64, .int .i64, .str]⟩),
  (46, ⟨3, 32, [.int .i64 0, .int .i64 0, .string ⟨#[]⟩], .struct [(0, 1, false), (1, 1, false), (2, 1, false)], none, [.int .i64, .int .i64, .str]⟩),
  (47, ⟨3, 32, [.int .i64 0, .int .i64 0, .string ⟨#[]⟩], .struct [(0, 1, false), (1, 1, false), (2, 1, false)], none, [.int .i64, .int .i64, .str]⟩),
  (52, ⟨1, 24, [.slice none 0 0], .slice 5, none, []⟩),
  (61, ⟨1, 4, [.int .u32 0], .word, some .u32, []⟩),
  (64, ⟨1, 8, [.nilFunc], .word, none, []⟩),
  (65, ⟨1, 8, [.pointer none], .word, none, []⟩)]
theorem ttOk : TabOk Try.prog tt := tabOk (by kernel_rfl) (by kernel_rfl)
end Go.Proofs.Ytffjfadmhpfmbaa
