"""The refusals: all stand under PlayError, none of them under another one."""


class PlayError(ValueError):
    pass


class NoBook(PlayError):
    def __init__(self, row):
        PlayError.__init__(self, f"row {row} can't stand where it does")
        self.row = row


class Idle(PlayError):
    def __init__(self, row):
        PlayError.__init__(self, f"the side that is part {row} names a part that moves no limb")
        self.row = row


class TwoHands(PlayError):
    def __init__(self, row, limb):
        PlayError.__init__(self, f"the side that is part {row} moves the limb {limb} twice")
        self.row = row
        self.limb = limb


class TooLong(PlayError):
    def __init__(self, row):
        PlayError.__init__(self, f"part {row} is too long")
        self.row = row


class Long(PlayError):
    pass


class NoBeat(PlayError):
    pass


class Done(PlayError):
    pass


class NoPins(PlayError):
    pass


class Broad(PlayError):
    pass


class NoRow(PlayError):
    pass


class NoName(PlayError):
    pass


class NoLimb(PlayError):
    pass
